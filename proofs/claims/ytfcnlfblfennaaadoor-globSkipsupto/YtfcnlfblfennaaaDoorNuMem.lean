/-
  Numbers as they lie in memory.
-/
import Derived.Test.YtfcnlfblfennaaaDoorTxMem
namespace Go.Proofs.YtfcnlfblfennaaaDoor
open Go.RowKit

/-- numbers that lie in memory, in a slice that is no longer than its room -/
structure Nx (w : World) (v : Value) (l : List Nat) : Prop where
  at_ : ((∃ a c, v = .slice a 0 c) ∧ l = []) ∨ ∃ bk o cap, v = .slice (some ⟨bk, o, none⟩) l.length cap ∧ bk < w.heap.size ∧ l.length ≤ cap ∧
    ∀ j, j < l.length → w.cell? ⟨bk, o + j, none⟩ = some (.int .i64 (l.getD j 0 : Nat))
theorem Nx.nil (w : World) (a : Option Addr) (c : Nat) : Nx w (.slice a 0 c) [] := ⟨.inl ⟨⟨_, _, rfl⟩, rfl⟩⟩
theorem Nx.slice {w : World} {v : Value} {l : List Nat} (h : Nx w v l) : ∃ a c, v = .slice a l.length c := by
  rcases h.at_ with ⟨⟨a, c, rfl⟩, rfl⟩ | ⟨bk, o, cap, rfl, _⟩
  · exact ⟨_, _, rfl⟩
  · exact ⟨_, _, rfl⟩
theorem Nx.below {w w' : World} {v : Value} {l : List Nat} (h : Nx w v l) (hb : Below w.heap.size w w') : Nx w' v l := by
  rcases h.at_ with h | ⟨bk, o, cap, h1, h2, h3, h4⟩
  · exact ⟨.inl h⟩
  · exact ⟨.inr ⟨bk, o, cap, h1, Nat.lt_of_lt_of_le h2 hb.size, h3, fun j hj => (hb.cell (p := ⟨bk, o + j, none⟩) h2).trans (h4 j hj)⟩⟩
theorem Nx.get {w : World} {a : Option Addr} {n c : Nat} {l : List Nat} (h : Nx w (.slice a n c) l) (j : Nat) (hj : j < l.length) : ∃ bk o, a = some ⟨bk, o, none⟩ ∧ bk < w.heap.size ∧ l.length ≤ c ∧
    w.cell? ⟨bk, o + j, none⟩ = some (.int .i64 (l.getD j 0 : Nat)) := by
  rcases h.at_ with ⟨_, rfl⟩ | ⟨bk, o, cap, h1, h2, h3, h4⟩
  · simp at hj
  · simp at h1
    obtain ⟨rfl, rfl, rfl⟩ := h1
    exact ⟨bk, o, rfl, h2, h3, h4 j hj⟩
/-- all but the first k -/
theorem Nx.drop {w : World} {bk o n c : Nat} {l : List Nat} (k : Nat) (h : Nx w (.slice (some ⟨bk, o, none⟩) (n + k) c) l) (hl : l.length = n + k) :
    Nx w (.slice (if c = k then some ⟨bk, o, none⟩ else some ⟨bk, o + k, none⟩) n (c - k)) (l.drop k) := by
  rcases h.at_ with ⟨⟨a, d, hv⟩, hx⟩ | ⟨bk', o', cap, hv, hb, hc, hcell⟩
  · simp at hv
    rw [hx] at hl
    simp at hl
    obtain ⟨rfl, rfl⟩ : n = 0 ∧ k = 0 := by omega
    rw [hx, List.drop_nil]
    exact Nx.nil ..
  · simp at hv
    obtain ⟨⟨rfl, rfl⟩, h1, rfl⟩ := hv
    by_cases h0 : n = 0
    · subst h0
      rw [List.drop_eq_nil_of_le (by omega)]
      exact Nx.nil ..
    · refine ⟨.inr ⟨bk, o + k, c - k, by rw [if_neg (by omega), List.length_drop, hl, Nat.add_sub_cancel], hb, by rw [List.length_drop]; omega, fun j hj => ?_⟩⟩
      rw [List.length_drop] at hj
      have := hcell (k + j) (by omega)
      rw [show o + k + j = o + (k + j) from by omega, this, List.getD_eq_getElem?_getD, List.getD_eq_getElem?_getD, List.getElem?_drop]
/-- a slice that lies below a block -/
def Lb (B : Nat) (v : Value) : Prop := ∀ a n c, v = .slice (some a) n c → 0 < n → a.block < B
theorem Lb.nil (B n c : Nat) : Lb B (.slice none n c) := fun a n c h _ => by cases h
theorem Lb.drop {B bk o n c m d k e : Nat} (h : Lb B (.slice (some ⟨bk, o, none⟩) n c)) {A : Option Addr} (hA : (if e = k then some (⟨bk, o, none⟩ : Addr) else some ⟨bk, o + k, none⟩) = A) (hn : 0 < n) : Lb B (.slice A m d) := fun a n c q _ => by
  have h1 := h _ _ _ rfl hn
  subst hA
  split at q
  · cases q; exact h1
  · cases q; exact h1
/-- numbers below a block stay, whatever becomes of what is above -/
theorem Nx.keep {B : Nat} {w w' : World} {v : Value} {l : List Nat} (h : Nx w v l) (hv : Lb B v) (hs : w.heap.size ≤ w'.heap.size) (hk : ∀ k, k < B → k < w.heap.size → w'.heap[k]? = w.heap[k]?) : Nx w' v l := by
  rcases h.at_ with h | ⟨bk, o, cap, h1, h2, h3, h4⟩
  · exact ⟨.inl h⟩
  · cases l with
    | nil => exact ⟨.inl ⟨⟨_, _, h1⟩, rfl⟩⟩
    | cons x l =>
      have e := hk bk (hv _ _ _ h1 (by simp)) h2
      refine ⟨.inr ⟨bk, o, cap, h1, Nat.lt_of_lt_of_le h2 hs, h3, fun j hj => ?_⟩⟩
      rw [show w'.cell? ⟨bk, o + j, none⟩ = w.cell? ⟨bk, o + j, none⟩ from by simp only [World.cell?, e]]
      exact h4 j hj
/-- what came in lies below what is made -/
theorem Nx.lb {w : World} {v : Value} {l : List Nat} (h : Nx w v l) {B : Nat} (hB : w.heap.size ≤ B) : Lb B v := fun a n c q hn => by
  rcases h.at_ with ⟨⟨a', c', e⟩, _⟩ | ⟨bk, o, cap, e1, e2, _⟩
  · rw [e] at q; cases q; omega
  · rw [e1] at q
    cases q
    show bk < B
    omega
end Go.Proofs.YtfcnlfblfennaaaDoor
