/-
  lumkeep.ChunkStream returns true.
-/
import Derived.Test.YtdalpicpkandcabChunkStreamOk
namespace Go.Proofs.Ytdalpicpkandcab
open Go.RowKit

theorem rep19 (V : World) : Calls Try.prog 5 #[.string ⟨#[97]⟩, .int .i64 19] V fun e w' => e = .returned (.string ⟨(Lib.repeatL [97] 19).toArray⟩) ∧ Below V.heap.size V w' :=
  Try.strings_Repeat ⟨#[97]⟩ 19 V (by omega) (by simp [ByteArray.size])
theorem cat_run (a b : ByteArray) (h : a.size + b.size ≤ 4096) (V : World) : (Op.stringOp .add a b).run Try.prog V = .ok (.string (a ++ b)) V :=
  run_string_add_sum (P := Try.prog) (w := V) a b (by omega)
theorem cat_size (a b : ByteArray) : (a ++ b).size = a.size + b.size := by
  rw [Lib.size_eq, ByteArray.data_append]; simp
theorem feed_yes (mn mx bt : Nat) (hO : OkCut mn mx bt) (held more : ByteArray) (hsum : held.size + more.size ≤ 4096) (w : World) (L : List Ck.Bs) (q : Ck.Bs) (hp : Ck.pieces (Ck.ends mn mx bt Rl.ofL) (held.data.toList ++ more.data.toList) = (L, q)) :
    Calls Try.prog 4 #[cutV mn mx bt, .string held, .string more] w fun e w' => ∃ v, e = .returned (.tuple #[v, Sv q, .int .i64 0]) ∧
      w'.ownsRow w.heap.size 9 1 v L.length (L.map Sv) ∧ Below w.heap.size w w' := by
  have hs : (held ++ more).size ≤ 4096 := by rw [cat_size]; exact hsum
  have hd : (held ++ more).data.toList = held.data.toList ++ more.data.toList := by rw [ByteArray.data_append, Array.toList_append]
  refine feed_ok mn mx bt hO held more (held ++ more) hs (cat_size held more).symm (cat_run held more hsum) w L q (by rw [hd]; exact hp) ?_
  have h1 := cutL_le mn mx bt (by have := hO.1; omega) (by have := hO.2.1; omega) (held ++ more) hs
  refine Nat.le_trans ?_ h1
  rw [hd, Ck.cut_of hp]
  split <;> simp
theorem fed20 : Ck.pieces (Ck.ends 16 20 12 Rl.ofL) (Lib.repeatL [97] 19 ++ [97, 98]) = ([List.replicate 20 97], [98]) := by decide +kernel
theorem len19 : (Lib.repeatL [(97 : UInt8)] 19).length = 19 := by decide +kernel
theorem feed20 (V : World) : Calls Try.prog 4 #[cutV 16 20 12, .string ⟨(Lib.repeatL [97] 19).toArray⟩, .string ⟨#[97, 98]⟩] V fun e w' => ∃ v, e = .returned (.tuple #[v, .string ⟨#[98]⟩, .int .i64 0]) ∧
    w'.ownsRow V.heap.size 9 1 v [List.replicate 20 (97 : UInt8)].length ([List.replicate 20 (97 : UInt8)].map Sv) ∧ Below V.heap.size V w' :=
  feed_yes 16 20 12 (by unfold OkCut; decide) ⟨(Lib.repeatL [97] 19).toArray⟩ ⟨#[97, 98]⟩ (by
    rw [Lib.size_eq, Lib.size_eq]
    show (Lib.repeatL [(97 : UInt8)] 19).toArray.toList.length + 2 ≤ 4096
    rw [List.toList_toArray, len19]
    omega) V _ _ (by rw [show (⟨(Lib.repeatL [97] 19).toArray⟩ : ByteArray).data.toList = Lib.repeatL [97] 19 from rfl]; exact fed20)

theorem joined_append (a b : List ByteArray) : joined (a ++ b) = joined a ++ joined b := by simp [joined]
theorem joined_take_le (xs : List ByteArray) (k : Nat) : (joined (xs.take k)).length ≤ (joined xs).length := by
  have h := congrArg List.length (joined_append (xs.take k) (xs.drop k))
  rw [List.take_append_drop, List.length_append] at h
  omega
theorem joined_succ (xs : List ByteArray) (k : Nat) (hk : k < xs.length) : joined (xs.take (k + 1)) = joined (xs.take k) ++ xs[k].data.toList := by
  rw [List.take_succ_eq_append_getElem hk, joined_append]
  simp [joined]
theorem held_nil (q : Ck.Bs) : (⟨q.toArray⟩ : ByteArray) = ⟨#[]⟩ ↔ q = [] := by
  constructor
  · intro h
    have := congrArg (fun b : ByteArray => b.data.toList) h
    simpa using this
  · rintro rfl; rfl

theorem chunkStream_walk (mn mx bt : Int) (v : Value) (xs : List ByteArray) (w : World) (hx : Parts w v xs) (hn : xs.length ≤ 1048576) (hl : (joined xs).length ≤ 1048576) :
    Calls Try.prog 3 #[cutV mn mx bt, v] w fun e w' => e = .returned (.bool true) ∧ Below w.heap.size w w' := by
  have hsz : (⟨(joined xs).toArray⟩ : ByteArray).size = (joined xs).length := by simp [ByteArray.size]
  by_cases h : sizeN mn mx bt (⟨(joined xs).toArray⟩ : ByteArray).size = 0
  · obtain ⟨hO, hs⟩ := sizeN_zero.1 h
    have hs' : (joined xs).length ≤ 4096 := by omega
    obtain ⟨mn, rfl⟩ := Int.eq_ofNat_of_zero_le (show 0 ≤ mn by have := hO.1; omega)
    obtain ⟨mx, rfl⟩ := Int.eq_ofNat_of_zero_le (show 0 ≤ mx by have := hO.1; have := hO.2.1; omega)
    obtain ⟨bt, rfl⟩ := Int.eq_ofNat_of_zero_le (show 0 ≤ bt by have := hO.2.2.2.1; omega)
    have hcl : cutL mn mx bt ⟨(joined xs).toArray⟩ = Ck.cut (Ck.ends mn mx bt Rl.ofL) (joined xs) := by
      rw [cutL, if_pos h]; rfl
    have hle := fun (t : Ck.Bs) (ht : t.length ≤ 4096) => cutL_le mn mx bt (by have := hO.1; omega) (by have := hO.2.1; omega) (⟨t.toArray⟩ : ByteArray) (by simp [ByteArray.size]; exact ht)
    refine chunkStream_ok mn mx bt v xs w _ _ (cutL mn mx bt ⟨(joined xs).toArray⟩) rfl hx hn hl rep19 feed20 (fun V => ?_)
      (fun k => (Ck.pieces (Ck.ends mn mx bt Rl.ofL) (joined (xs.take k))).1) (fun k => ⟨(Ck.pieces (Ck.ends mn mx bt Rl.ofL) (joined (xs.take k))).2.toArray⟩) ?_ ?_ (fun k => ?_) ?_ (fun k hk => ?_) ?_
    · have := cut_any mn mx bt ⟨(joined xs).toArray⟩ V
      rw [h] at this
      exact this
    · exact (rfl : (Ck.pieces (Ck.ends mn mx bt Rl.ofL) []).1 = [])
    · exact (rfl : (⟨(Ck.pieces (Ck.ends mn mx bt Rl.ofL) []).2.toArray⟩ : ByteArray) = ⟨#[]⟩)
    · have h1 := hle (joined (xs.take k)) (by have := joined_take_le xs k; omega)
      refine Nat.le_trans ?_ h1
      obtain ⟨l, q, hp⟩ : ∃ l q, Ck.pieces (Ck.ends mn mx bt Rl.ofL) (joined (xs.take k)) = (l, q) := ⟨_, _, rfl⟩
      show (Ck.pieces (Ck.ends mn mx bt Rl.ofL) (joined (xs.take k))).1.length ≤ (Ck.cut (Ck.ends mn mx bt Rl.ofL) (joined (xs.take k))).length
      rw [hp, Ck.cut_of hp]
      split <;> simp
    · rw [hcl]; exact hle (joined xs) hs'
    · have hm := Ck.pieces_more (E := Ck.ends mn mx bt Rl.ofL) (joined (xs.take k)) xs[k].data.toList
      rw [← joined_succ xs k hk] at hm
      have hr := rest_le (Ck.ends mn mx bt Rl.ofL) (joined (xs.take k))
      have hj := congrArg List.length (joined_succ xs k hk)
      rw [List.length_append] at hj
      have hj2 := joined_take_le xs (k + 1)
      refine ⟨(Ck.pieces (Ck.ends mn mx bt Rl.ofL) ((Ck.pieces (Ck.ends mn mx bt Rl.ofL) (joined (xs.take k))).2 ++ xs[k].data.toList)).1, ?_, fun V => ?_⟩
      · show (Ck.pieces _ (joined (xs.take (k + 1)))).1 = _
        rw [hm]
      · have := feed_yes mn mx bt hO ⟨(Ck.pieces (Ck.ends mn mx bt Rl.ofL) (joined (xs.take k))).2.toArray⟩ xs[k] (by
          rw [Lib.size_eq, Lib.size_eq]
          show (Ck.pieces (Ck.ends mn mx bt Rl.ofL) (joined (xs.take k))).2.toArray.toList.length + _ ≤ _
          rw [List.toList_toArray]
          omega) V _ _ rfl
        show Calls _ _ _ _ fun e w' => ∃ v, e = .returned (.tuple #[v, Sv (Ck.pieces (Ck.ends mn mx bt Rl.ofL) (joined (xs.take (k + 1)))).2, .int .i64 0]) ∧ _
        rw [hm]
        exact this
    · show cutL mn mx bt ⟨(joined xs).toArray⟩ = if _ then _ else _
      rw [hcl, List.take_length]
      obtain ⟨l, q, hp⟩ : ∃ l q, Ck.pieces (Ck.ends mn mx bt Rl.ofL) (joined xs) = (l, q) := ⟨_, _, rfl⟩
      rw [Ck.cut_of hp, hp]
      by_cases hq : q = []
      · rw [if_pos hq, if_pos ((held_nil q).2 hq)]
      · rw [if_neg hq, if_neg (fun e => hq ((held_nil q).1 e))]
  · refine chunkStream_no mn mx bt (sizeN mn mx bt (⟨(joined xs).toArray⟩ : ByteArray).size) v xs w _ _ [] rfl hx hn hl rep19 feed20 (fun V => ?_) h rfl
    have := cut_any mn mx bt ⟨(joined xs).toArray⟩ V
    rw [show cutL mn mx bt ⟨(joined xs).toArray⟩ = [] from if_neg h] at this
    exact this
end Go.Proofs.Ytdalpicpkandcab
