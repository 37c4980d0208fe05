/-
  P32, before the walk of the reference's Merge and IndexOf: place after place put in.
-/
import Derived.Test.YtllioidjelgafaaRPut
namespace Go.Proofs.Ytllioidjelgafaa
open Go.RowKit

/-- so many more places -/
def pputs (x l : List Plc) : List Plc := l.foldl pput x
theorem ps_pputs (l : List Plc) : ∀ x : List Plc, ps (pputs x l) = Ix.puts (ps x) (ps l) := by
  induction l with
  | nil => exact fun _ => rfl
  | cons p l ih =>
    intro x
    show ps (pputs (pput x p) l) = Ix.puts (Ix.put (ps x) p.p) (ps l)
    rw [ih, ps_pput]
theorem pputs_more {x l : List Plc} {k : Nat} {t : Plc} (h : l[k]? = some t) : pputs x (l.take (k + 1)) = pput (pputs x (l.take k)) t := by
  unfold pputs
  rw [List.take_add_one, h, List.foldl_append]
  rfl
theorem pputs_len (l : List Plc) : ∀ x : List Plc, (pputs x l).length ≤ x.length + l.length := by
  induction l with
  | nil => exact fun _ => Nat.le_refl _
  | cons p l ih =>
    intro x
    show (pputs (pput x p) l).length ≤ _
    have h1 := ih (pput x p)
    have h2 := pput_len x p
    rw [List.length_cons]
    omega

theorem plput_any (v : Value) (x : List Plc) (p : Plc) (w : World) (h : Px w v x) (hl : x.length ≤ 1000) :
    Calls Try.prog 36 #[v, plV p] w fun e w' => ∃ v', e = .returned v' ∧ w'.ownsRow w.heap.size 28 12 v' (pput x p).length (rowR plC (pput x p)) ∧ Below w.heap.size w w' := by
  obtain ⟨b0, b1, b2, b3, b4, b5, b6, b7, k1, p1, a1, l1, rfl⟩ := p.as12
  obtain ⟨a, c, rfl, _, _⟩ := h.slice
  exact rput_of a c x b0 b1 b2 b3 b4 b5 b6 b7 k1 p1 a1 l1 _ w h hl rfl
/-- places in new memory, as a slice that is named -/
theorem plput_out (v : Value) (x : List Plc) (p : Plc) (w : World) (h : Px w v x) (hl : x.length ≤ 1000) :
    Calls Try.prog 36 #[v, plV p] w fun e w' => ∃ s c, e = .returned (.slice s (pput x p).length c) ∧ Px w' (.slice s (pput x p).length c) (pput x p) ∧ (∀ a, s = some a → w.heap.size ≤ a.block) ∧ Below w.heap.size w w' := by
  refine (plput_any v x p w h hl).mono fun e w' ⟨v', h1, h2, h3⟩ => ?_
  obtain ⟨s, c, rfl⟩ := ixown_form h2
  refine ⟨s, c, h1, Rx.of_own plC_length h2, fun a ha => ?_, h3⟩
  subst ha
  rcases h2.2 with ⟨h4, _⟩ | ⟨g, cap, cur, h4, h5, _⟩
  · simp at h4
  · rw [Value.slice.injEq] at h4
    obtain ⟨rfl, _⟩ := Option.some.inj h4.1
    exact h5
end Go.Proofs.Ytllioidjelgafaa
