/-
  What Push of the document's answer (package lumref) answers.
-/
import Derived.Test.YtipoponlfedplaaRollCells
import Derived.Test.YtipoponlfedplaaRefT
import Derived.Deep.Cut
namespace Go.Proofs.Ytipoponlfedplaa
open Go.RowKit

set_option maxHeartbeats 1000000 in
theorem rpush_of (l : List UInt8) (i o : Nat) (b : UInt8) (w : World) (hl : l.length = 16) (hi : i < 16) (ho : o < 2147483648) (V : Value) (HV : Hid (V = .agg (rollCells (l.set i b) ((i + 1) % 16 : Nat) (Rl.pushS o (l.getD i 0).toNat b.toNat)).toArray)) :
    Calls Try.prog 9 #[.agg (rollCells l i o).toArray, B b] w fun e w' => e = .returned (.tuple #[V, .int .i64 0]) ∧ Below w.heap.size w w' := by
  have hlen := rollCells_length hl i o
  have HS : Hid (RS w.heap.size w.heap.size w ((w.alloc (.cells (rollCells l i o).toArray 25)).alloc (.cells Z18 25)) l i o) := RS.start l i o w hl
  go_enter Try.func9, Try.ntmps9
  go_upto_region 1 with fail
  dsimp only [Z18] at HS
  generalize (w.alloc (.cells (rollCells l i o).toArray 25)).alloc (Obj.cells #[.int .u8 0, .int .u8 0, .int .u8 0, .int .u8 0, .int .u8 0, .int .u8 0, .int .u8 0, .int .u8 0, .int .u8 0, .int .u8 0, .int .u8 0, .int .u8 0, .int .u8 0, .int .u8 0, .int .u8 0, .int .u8 0, .int .i64 0, .int .u32 0] 25) = W1 at HS ⊢
  clear hlen
  have c16 := HS.out.c16
  have c17 := HS.out.c17
  have ck := HS.out.lo hi
  have f17 := HS.out.fz 17 (by omega)
  obtain ⟨o2, HO⟩ : ∃ o2, Hid (Rl.pushS o (l.getD i 0).toNat b.toNat = o2) := ⟨_, rfl⟩
  have HO1 := HO
  generalize hg : l.getD i 0 = g at ck HO1
  have hgl := Rl.byte_lt g
  go_wp2_with fail
  go_loop [6, 27] (fun x i => ∃ k : Nat, k ≤ 15 ∧ i = .int .i64 k ∧ x = .int .u64 (Rl.mxk (8 * k) g.toNat : Nat)) (fun _ i => 15 - (intOf i).toNat)
  case atStart => exact ⟨0, by omega, rfl, rfl⟩
  case round =>
    obtain ⟨k, hk, rfl, rfl⟩ := hrel
    have hml := Rl.mxk_lt (8 * k) (show g.toNat < 2147483648 by omega)
    by_cases hlt : k < 15
    · have hr := fun W => rrest_any (Rl.mxk (8 * k) g.toNat * 256) W (by omega)
      rw [Rl.shift8_rem hml, Rl.mxk8_step, show ((Rl.mxk (8 * k) g.toNat * 256 : Nat) : Int) = (Rl.mxk (8 * k) g.toNat : Int) * 256 from by omega] at hr
      have hml2 := Rl.mxk_lt (8 * (k + 1)) (show g.toNat < 2147483648 by omega)
      go_wp2_with fail
      refine (hr _).mono ?_
      rintro e w1 ⟨rfl, rfl⟩
      go_wp2_with fail
      go_round
      case rel => exact ⟨k + 1, by omega, by go_num, rfl⟩
      case measure => simp [intOf]; omega
    · obtain rfl : k = 15 := by omega
      rw [show 8 * 15 = 120 from rfl] at *
      have hx := u64_xor_nat o (Rl.mxk 120 g.toNat) (by omega) (by omega)
      have hl1 := Nat.xor_lt_two_pow (n := 31) ho hml
      have hr := fun W => rrest_any ((o ^^^ Rl.mxk 120 g.toNat) * 256) W (by omega)
      rw [Rl.shift8_rem hl1, show (((o ^^^ Rl.mxk 120 g.toNat) * 256 : Nat) : Int) = ((o ^^^ Rl.mxk 120 g.toNat : Nat) : Int) * 256 from by omega] at hr
      have hl2 := Rl.mxk_lt 8 hl1
      have hbl := Rl.byte_lt b
      have hx2 := u32_xor_nat (Rl.mxk 8 (o ^^^ Rl.mxk 120 g.toNat)) b.toNat (by omega) (by omega)
      rw [show Rl.mxk 8 (o ^^^ Rl.mxk 120 g.toNat) ^^^ b.toNat = o2 from HO1.out] at hx2
      go_upto_region 8 with fail
      go_cut [] from 27 (fun wx => Hid (RS w.heap.size w.heap.size w wx l i o2))
      case first =>
        unfold B
        go_wp2_with fail
        refine (hr _).mono ?_
        rintro e w1 ⟨rfl, rfl⟩
        go_wp2_with fail
        go_meet
        exact HS.out.sum _
      case rest =>
        have hc1 := hcut
        clear hcut c16 c17 ck f17 HS hx hr hx2 hl1 hl2 hml
        have d16 := hc1.out.c16
        have dk := hc1.out.lo hi
        have ek := hc1.out.fz i (by omega)
        go_upto_region 9 with fail
        go_cut [] from 27 (fun wx => Hid (RS w.heap.size w.heap.size w wx (l.set i b) i o2))
        case first =>
          unfold B
          go_wp2_with fail
          go_meet
          exact hc1.out.byte hi b
        case rest =>
          have hc2 := hcut
          clear d16 dk ek hcut hc1
          have d16 := hc2.out.c16
          have e16 := hc2.out.fz 16 (by omega)
          go_upto_region 10 with fail
          go_cut [] from 27 (fun wx => Hid (RS w.heap.size w.heap.size w wx (l.set i b) ((i : Int) + 1) o2))
          case first =>
            go_wp2_with fail
            go_meet
            exact hc2.out.place _
          case rest =>
            have hc4 := hcut
            clear d16 e16 hcut hc2
            have d16 := hc4.out.c16
            have e16 := hc4.out.fz 16 (by omega)
            by_cases h15 : i = 15
            · have hq : ((i : Int) + 1 == 16) = true := by rw [beq_iff_eq]; omega
              have HM : Hid ((((i + 1) % 16 : Nat) : Int) = 0) := by show _ = _; omega
              clear h15
              go_upto_region 12 with fail
              go_cut [] from 27 (fun wx => Hid (RS w.heap.size w.heap.size w wx (l.set i b) 0 o2))
              case first =>
                go_wp2_with fail
                go_meet
                exact hc4.out.place _
              case rest =>
                have hc3 := hcut
                clear d16 e16 hcut hc4
                obtain ⟨cs, W2, HCS, hlen, hrng, hres, hinf, hall, hW2, hst, hlv⟩ := hc3.out.fin
                go_upto_region 13 with fail
                refine wp_region_lit ?_
                refine wpList_load_mid rfl 25 (.tmp 2) rfl w.heap.size 0 rfl cs _ hrng Try.underlying25 rfl (by rw [info_roll, hlen]) ?_
                refine wpList_store_mid rfl 25 (.tmp 4) (.tmp 58) rfl (w.heap.size + 1) 0 cs.toArray rfl rfl hres hinf hall ?_
                rw [show cs.toArray.toList = cs from rfl, hW2]
                clear hW2 hc3 hrng hres hinf hall
                go_wp2_with fail
                refine bodyPost_ret (v := .tuple #[.agg cs.toArray, .int .i64 0]) ?_ rfl ⟨?_, hst⟩
                · simp [results, asAddr, hlv]
                · rw [HV.out, ← HCS.out, HO.out, HM.out]
            · have hq : ((i : Int) + 1 == 16) = false := by rw [beq_eq_false_iff_ne]; omega
              have HM : Hid ((((i + 1) % 16 : Nat) : Int) = (i : Int) + 1) := by show _ = _; omega
              have hc3 := hc4
              clear h15 hc4
              obtain ⟨cs, W2, HCS, hlen, hrng, hres, hinf, hall, hW2, hst, hlv⟩ := hc3.out.fin
              go_upto_region 13 with fail
              refine wp_region_lit ?_
              refine wpList_load_mid rfl 25 (.tmp 2) rfl w.heap.size 0 rfl cs _ hrng Try.underlying25 rfl (by rw [info_roll, hlen]) ?_
              refine wpList_store_mid rfl 25 (.tmp 4) (.tmp 58) rfl (w.heap.size + 1) 0 cs.toArray rfl rfl hres hinf hall ?_
              rw [show cs.toArray.toList = cs from rfl, hW2]
              clear hW2 hc3 hrng hres hinf hall
              go_wp2_with fail
              refine bodyPost_ret (v := .tuple #[.agg cs.toArray, .int .i64 0]) ?_ rfl ⟨?_, hst⟩
              · simp [results, asAddr, hlv]
              · rw [HV.out, ← HCS.out, HO.out, HM.out]

theorem rpush_in (l : List UInt8) (i o : Nat) (b : UInt8) (w : World) (hl : l.length = 16) (hi : i < 16) (ho : o < 2147483648) :
    Calls Try.prog 9 #[.agg (rollCells l i o).toArray, B b] w fun e w' => e = .returned (.tuple #[.agg (rollCells (l.set i b) ((i + 1) % 16 : Nat) (Rl.pushS o (l.getD i 0).toNat b.toNat)).toArray, .int .i64 0]) ∧ Below w.heap.size w w' :=
  rpush_of l i o b w hl hi ho _ rfl
end Go.Proofs.Ytipoponlfedplaa
