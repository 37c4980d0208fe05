/-
  What Push of package roll answers.
-/
import Derived.Test.YtdalpicpkandcabRollCells
import Derived.Deep.Cut
namespace Go.Proofs.Ytdalpicpkandcab
open Go.RowKit

set_option maxHeartbeats 1000000 in
theorem push_in (l : List UInt8) (i o : Nat) (b : UInt8) (w : World) (hl : l.length = 16) (hi : i < 16) (ho : o < 2147483648) :
    Calls Try.prog 29 #[.agg (rollCells l i o).toArray, B b] w fun e w' => e = .returned (.tuple #[.agg (rollCells (l.set i b) ((i + 1) % 16 : Nat) (Rl.pushS o (l.getD i 0).toNat b.toNat)).toArray, .int .i64 0]) ∧ Below w.heap.size w w' := by
  have hz : ((o : Int) / 2147483648 != 0) = false := by rw [show (o : Int) / 2147483648 = 0 from by omega]; rfl
  have hlen := rollCells_length hl i o
  have h16 := rollCells_16 hl i o
  have h17 := rollCells_17 hl i o
  have HS : Hid (RS w.heap.size w.heap.size w ((w.alloc (.cells (rollCells l i o).toArray 66)).alloc (.cells Z18 66)) l i o) := RS.start l i o w hl
  go_enter Try.func29, Try.ntmps29
  go_upto_region 1 with fail
  dsimp only [Z18] at HS
  generalize (w.alloc (.cells (rollCells l i o).toArray 66)).alloc (Obj.cells #[.int .u8 0, .int .u8 0, .int .u8 0, .int .u8 0, .int .u8 0, .int .u8 0, .int .u8 0, .int .u8 0, .int .u8 0, .int .u8 0, .int .u8 0, .int .u8 0, .int .u8 0, .int .u8 0, .int .u8 0, .int .u8 0, .int .i64 0, .int .u32 0] 66) = W1 at HS ⊢
  clear hlen h16 h17
  have c16 := HS.out.c16
  have c17 := HS.out.c17
  have ck := HS.out.lo hi
  have f17 := HS.out.fz 17 (by omega)
  have ht := fun W => times_any (l.getD i 0).toNat 1207959812 W (by have := Rl.byte_lt (l.getD i 0); omega) (by omega)
  rw [Rl.times_120 (by have := Rl.byte_lt (l.getD i 0); omega)] at ht
  generalize hg : l.getD i 0 = g at *
  have hgl := Rl.byte_lt g
  have hgw := wrap_u32_small g.toNat (by omega)
  have hml := Rl.mxk_lt 120 (show g.toNat < 2147483648 by omega)
  have hx := u32_xor_nat o (Rl.mxk 120 g.toNat) (by omega) (by omega)
  go_upto_region 3 with fail
  go_cut [] from 21 (fun wx => Hid (RS w.heap.size w.heap.size w wx l i (o ^^^ Rl.mxk 120 g.toNat)))
  case first =>
    go_region_with (refine (ht _).mono ?_; rintro e w1 ⟨rfl, rfl⟩)
    all_goals
      go_wp2_with fail
      go_meet
      exact (HS.out.sum _).drew
  case rest =>
    have hc0 := hcut
    clear hcut
    have hP := fun W => putIn_any (o ^^^ Rl.mxk 120 g.toNat) b W (Nat.xor_lt_two_pow (n := 31) ho hml)
    have HV : Hid (Rl.pushS o g.toNat b.toNat = Rl.mxk 8 (o ^^^ Rl.mxk 120 g.toNat) ^^^ b.toNat) := by show _ = _; rfl
    rw [← HV.out] at hP
    generalize o ^^^ Rl.mxk 120 g.toNat = o1 at *
    clear hx hml ht c16 c17 ck f17 HS HV
    obtain ⟨o2, HO⟩ : ∃ o2, Hid (Rl.pushS o (l.getD i 0).toNat b.toNat = o2) := ⟨_, rfl⟩
    rw [← hg, HO.out] at hP
    have d17 := hc0.out.c17
    have e17 := hc0.out.fz 17 (by omega)
    go_upto_region 4 with fail
    go_cut [] from 21 (fun wx => Hid (RS w.heap.size w.heap.size w wx l i o2))
    case first =>
      go_wp2_with fail
      refine (hP _).mono ?_
      rintro e w1 ⟨rfl, rfl⟩
      go_wp2_with fail
      go_meet
      exact hc0.out.sum _
    case rest =>
      have hc1 := hcut
      clear d17 e17 hcut hc0
      have d16 := hc1.out.c16
      have dk := hc1.out.lo hi
      have ek := hc1.out.fz i (by omega)
      go_upto_region 5 with fail
      go_cut [] from 21 (fun wx => Hid (RS w.heap.size w.heap.size w wx (l.set i b) i o2))
      case first =>
        unfold B
        go_wp2_with fail
        go_meet
        exact hc1.out.byte hi b
      case rest =>
        have hc2 := hcut
        clear d16 dk ek hcut hc1
        have d16 := hc2.out.c16
        have e16 := hc2.out.fz 16 (by omega)
        have HI : Hid (((i : Int) + 1) % 16 = (((i + 1) % 16 : Nat) : Int)) := by show _ = _; omega
        go_upto_region 6 with fail
        go_cut [] from 21 (fun wx => Hid (RS w.heap.size w.heap.size w wx (l.set i b) ((i + 1) % 16 : Nat) o2))
        case first =>
          go_wp2_with fail
          go_meet
          rw [HI.out]
          exact hc2.out.place _
        case rest =>
          have hc3 := hcut
          clear d16 e16 hcut hc2
          obtain ⟨cs, W2, HCS, hlen, hrng, hres, hinf, hall, hW2, hst, hlv⟩ := hc3.out.fin
          go_upto_region 7 with fail
          refine wp_region_lit ?_
          refine wpList_load_mid rfl 66 (.tmp 2) rfl w.heap.size 0 rfl cs _ hrng Try.underlying66 rfl (by rw [info_roll, hlen]) ?_
          refine wpList_store_mid rfl 66 (.tmp 4) (.tmp 47) rfl (w.heap.size + 1) 0 cs.toArray rfl rfl hres hinf hall ?_
          rw [show cs.toArray.toList = cs from rfl, hW2]
          clear hW2 hc3 hrng hres hinf hall
          go_wp2_with fail
          refine bodyPost_ret (v := .tuple #[.agg cs.toArray, .int .i64 0]) ?_ rfl ⟨?_, hst⟩
          · simp [results, asAddr, hlv]
          · rw [← HCS.out, HO.out]
end Go.Proofs.Ytdalpicpkandcab
