/-
  What lumkeep.pushed answers: the walk.
-/
import Derived.Test.YtipoponlfedplaaRollRst
namespace Go.Proofs.Ytipoponlfedplaa
open Go.RowKit

set_option maxHeartbeats 1000000 in
theorem pushed_any (r : Rst) (h : r.Ok) (s : ByteArray) (w : World) (hs : s.size ≤ 140737488351232) :
    Calls Try.prog 15 #[.agg r.cells.toArray, .string s] w fun e w' => e = .returned (.tuple #[.agg (r.all s.data.toList).cells.toArray, .bool true]) ∧ Below w.heap.size w w' := by
  have hlen : r.cells.length = 18 := rollCells_length h.len r.i r.o
  have HS : Hid (RS w.heap.size w.heap.size w ((w.alloc (.cells r.cells.toArray 25)).alloc (.cells Z18 25)) r.l r.i r.o) := RS.start r.l r.i r.o w h.len
  have HT : Hid (∀ k (hk : k < s.size), r.all (s.data.toList.take (k + 1)) = (r.all (s.data.toList.take k)).push s[k]) := Rst.all_take r s
  have HOK : Hid (∀ k, (r.all (s.data.toList.take k)).Ok) := fun k => h.all _
  have HE : Hid (r.all (s.data.toList.take s.size) = r.all s.data.toList) := by
    show _ = _
    rw [List.take_of_length_le (by rw [← Lib.size_eq]; exact Nat.le_refl _)]
  have H0 : Hid (r.all (s.data.toList.take 0) = r) := by show _ = _; rfl
  generalize r.all s.data.toList = R at *
  generalize hf : (fun k => r.all (s.data.toList.take k)) = f at *
  have H0' : Hid (f 0 = r) := by rw [← hf]; exact H0.out
  have HT' : Hid (∀ k (hk : k < s.size), f (k + 1) = (f k).push s[k]) := by rw [← hf]; exact HT.out
  have HOK' : Hid (∀ k, (f k).Ok) := by rw [← hf]; exact HOK.out
  have HE' : Hid (f s.size = R) := by rw [← hf]; exact HE.out
  clear hf H0 HT HOK HE h
  go_enter Try.func15, Try.ntmps15
  go_upto_region 1 with fail
  dsimp only [Z18] at HS
  generalize (w.alloc (.cells r.cells.toArray 25)).alloc (Obj.cells #[.int .u8 0, .int .u8 0, .int .u8 0, .int .u8 0, .int .u8 0, .int .u8 0, .int .u8 0, .int .u8 0, .int .u8 0, .int .u8 0, .int .u8 0, .int .u8 0, .int .u8 0, .int .u8 0, .int .u8 0, .int .u8 0, .int .i64 0, .int .u32 0] 25) = W1 at HS ⊢
  go_wp2_with fail
  go_loopw [10] (fun i wr => ∃ k : Nat, k ≤ s.size ∧ i = .int .i64 k ∧ Hid (RS w.heap.size w.heap.size w wr (f k).l (f k).i (f k).o)) (fun i _ => s.size - (intOf i).toNat)
  case atStart => exact ⟨0, Nat.zero_le _, rfl, by rw [H0'.out]; exact HS⟩
  case round =>
    obtain ⟨k, hk, rfl, hr⟩ := hrel
    clear HS H0'
    by_cases hlt : k < s.size
    · have hp := push_rst (f k) (HOK'.out k) s[k]
      have hok2 := (HOK'.out k).push s[k]
      have HN : Hid (f (k + 1) = (f k).push s[k]) := HT'.out k hlt
      have hrd := hr.out.drew
      have hrng : wr.drew.rangeAt w.heap.size 0 (f k).cells := hrd.rng
      have hl0 : (f k).cells.length = 18 := rollCells_length hrd.len _ _
      generalize hN : (f k).push s[k] = R1 at *
      have hl1 : R1.cells.length = 18 := rollCells_length hok2.len _ _
      have h1c : R1.cells.toArray.all (·.oneCell') = true := rollCells_one _ _ _
      go_upto_region 5 with fail
      refine wp_region_any (by kernel_rfl) ?_
      change wpAny _ _ _ _ _ _ _ (World.drew _)
      refine wpAny_take (i := 1) (v := .string s) rfl (by kernel_rfl) (by kernel_rfl) (by kernel_rfl) (fun _ _ _ h => h) (Or.inl ⟨by rfl, fun V => by go_simp⟩) ?_
      refine wpAny_take (i := 2) (v := .int .i64 (k : Int)) rfl (by kernel_rfl) (by kernel_rfl) (by kernel_rfl) (fun _ _ _ h => h) (Or.inl ⟨by rfl, fun V => by go_simp⟩) ?_
      refine wpAny_take (i := 3) (v := .int .u8 (s[k].toNat : Int)) rfl (by kernel_rfl) (by kernel_rfl) (by kernel_rfl) (fun _ _ _ h => h) (Or.inl ⟨by rfl, fun V => by go_simp⟩) ?_
      refine wpAny_ready (rs := [0]) (by kernel_rfl) (by simp) ?_
      refine AllReady.cons rfl (fun K hK => ?_) AllReady.nil
      rw [if_pos (by rfl)]
      refine wp_load_mid 25 (.tmp 2) rfl w.heap.size 0 rfl (f k).cells _ hrng Try.underlying25 rfl (by rw [info_roll, hl0]) ?_
      refine hK _ _ ?_
      clear hK K
      refine wpAny_ready (rs := [4]) (by kernel_rfl) (by simp) ?_
      refine AllReady.cons rfl (fun K hK => ?_) AllReady.nil
      go_simp
      refine (hp _).mono ?_
      rintro e w1 ⟨rfl, hb1⟩
      refine hK _ _ ?_
      clear hK K
      have hr1 := hrd.past hb1
      have hth : w1.there w.heap.size 0 R1.cells.toArray.size := by
        intro j hj
        have hj' : j < 18 := by simpa [hl1] using hj
        have h1 := hr1.rng.isSome j (by rw [rollCells_length hr1.len]; exact hj')
        have h2 := hr1.fz j hj'
        rw [Nat.zero_add] at h1 ⊢
        exact ⟨h1, h2⟩
      have hin : (Try.prog.info? 25).map (·.size) = some R1.cells.toArray.size := by rw [info_roll]; simp [hl1]
      have HW : Hid (RS w.heap.size w.heap.size w (w1.setCells w.heap.size 0 R1.cells) R1.l R1.i R1.o) := hr1.whole hok2.len
      refine wpAny_take (i := 5) (v := .tuple #[.agg R1.cells.toArray, .int .i64 0]) rfl (by kernel_rfl) (by kernel_rfl) (by kernel_rfl) (fun _ _ _ h => h) (Or.inl ⟨by rfl, fun V => by go_simp⟩) ?_
      refine wpAny_take (i := 6) (v := .agg R1.cells.toArray) rfl (by kernel_rfl) (by kernel_rfl) (by kernel_rfl) (fun _ _ _ h => h) (Or.inl ⟨by rfl, fun V => by go_simp⟩) ?_
      refine wpAny_take (i := 7) (v := .int .i64 0) rfl (by kernel_rfl) (by kernel_rfl) (by kernel_rfl) (fun _ _ _ h => h) (Or.inl ⟨by rfl, fun V => by go_simp⟩) ?_
      refine wpAny_ready (rs := [8]) (by kernel_rfl) (by simp) ?_
      refine AllReady.cons rfl (fun K hK => ?_) AllReady.nil
      rw [if_pos (by rfl)]
      refine wp_store_mid 25 (.tmp 2) (.tmp 19) rfl w.heap.size 0 R1.cells.toArray rfl rfl hth hin h1c ?_
      refine hK _ _ ?_
      clear hK K
      rw [show R1.cells.toArray.toList = R1.cells from rfl]
      generalize w1.setCells w.heap.size 0 R1.cells = w2 at HW ⊢
      refine wpAny_take (i := 9) (v := .int .i64 0) rfl (by kernel_rfl) (by kernel_rfl) (by kernel_rfl) (fun _ _ _ h => h) (Or.inl ⟨by rfl, fun V => by go_simp⟩) ?_
      refine wpAny_done (by kernel_rfl) ?_ _
      clear hr1 hth hin hb1 hrd hrng hr hp
      go_wp2_with fail
      go_roundw
      case rel => exact ⟨k + 1, by omega, by go_num, by rw [HN.out]; exact HW⟩
      case measure => simp only [intOf]; omega
    · obtain rfl : k = s.size := by omega
      rw [HE'.out] at hr
      obtain ⟨cs, W2, HCS, hln, hrng, hres, hinf, hall, hW2, hst, hlv⟩ := hr.out.fin
      go_upto_region 9 with fail
      refine wp_region_lit ?_
      refine wpList_load_mid rfl 25 (.tmp 2) rfl w.heap.size 0 rfl cs _ hrng Try.underlying25 rfl (by rw [info_roll, hln]) ?_
      refine wpList_store_mid rfl 25 (.tmp 4) (.tmp 25) rfl (w.heap.size + 1) 0 cs.toArray rfl rfl hres hinf hall ?_
      rw [show cs.toArray.toList = cs from rfl, hW2]
      clear hW2 hr hrng hres hinf hall
      go_wp2_with fail
      refine bodyPost_ret (v := .tuple #[.agg cs.toArray, .bool true]) ?_ rfl ⟨?_, hst⟩
      · simp [results, asAddr, hlv]
      · rw [← HCS.out]; rfl
end Go.Proofs.Ytipoponlfedplaa
