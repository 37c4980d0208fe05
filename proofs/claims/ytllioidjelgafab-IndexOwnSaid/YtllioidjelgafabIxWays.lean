/-
  Ways to an index (no Go in it): two rising lists walked side by side; a sorted list of which the first of each digest is kept; a search by halves.
-/
import Derived.Test.YtllioidjelgafabIxBack
namespace Go.Proofs.Ytllioidjelgafab
namespace Ix

/-- two lists side by side -/
def side : List Pl → List Pl → List Pl
  | [], b => b
  | p :: a, [] => p :: a
  | p :: a, q :: b => if ky p < ky q then p :: side a (q :: b) else if ky q < ky p then q :: side (p :: a) b else (if sm q p then q else p) :: side a b
theorem side_mem : ∀ {a b : List Pl} {r : Pl}, r ∈ side a b → r ∈ a ∨ r ∈ b
  | [], b, r, h => by rw [side] at h; exact .inr h
  | p :: a, [], r, h => by rw [side] at h; exact .inl h
  | p :: a, q :: b, r, h => by
    rw [side] at h
    split at h
    · rcases List.mem_cons.mp h with e | k
      · exact .inl (e ▸ List.mem_cons_self)
      · exact (side_mem k).imp (List.mem_cons_of_mem _) id
    · split at h
      · rcases List.mem_cons.mp h with e | k
        · exact .inr (e ▸ List.mem_cons_self)
        · exact (side_mem k).imp id (List.mem_cons_of_mem _)
      · rcases List.mem_cons.mp h with e | k
        · split at e
          · exact .inr (e ▸ List.mem_cons_self)
          · exact .inl (e ▸ List.mem_cons_self)
        · exact (side_mem k).imp (List.mem_cons_of_mem _) (List.mem_cons_of_mem _)
theorem side_is : ∀ {a b : List Pl}, Up a → Up b → Ids (a ++ b) → Is (a ++ b) (side a b)
  | [], b, _, hb, _ => by rw [side]; exact Is.self hb
  | p :: a, [], ha, _, _ => by rw [side, List.append_nil]; exact Is.self ha
  | p :: a, q :: b, ha, hb, hi => by
    rw [side]
    split
    · rename_i hlt
      have ih := side_is ha.tail hb (hi.sub fun r hr => List.mem_cons_of_mem _ hr)
      have hup : ∀ r ∈ a ++ (q :: b), ky p < ky r := fun r hr => by
        rcases List.mem_append.mp hr with k | k
        · exact ha.head r k
        · rcases List.mem_cons.mp k with rfl | c
          · exact hlt
          · have := hb.head r c; omega
      exact Is.front hup ih
    · rename_i h1
      split
      · rename_i hlt
        have ih := side_is ha hb.tail (hi.sub fun r hr => by
          rcases List.mem_append.mp hr with k | k
          · exact List.mem_append_left _ k
          · exact List.mem_append_right _ (List.mem_cons_of_mem _ k))
        have hup : ∀ r ∈ (p :: a) ++ b, ky q < ky r := fun r hr => by
          rcases List.mem_append.mp hr with k | k
          · rcases List.mem_cons.mp k with rfl | c
            · exact hlt
            · have := ha.head r c; omega
          · exact hb.head r k
        refine (Is.front hup ih).congr fun r => ?_
        simp only [List.mem_cons, List.mem_append]
        exact or_left_comm
      · rename_i h2
        have ek : ky p = ky q := by omega
        have eid : p.id = q.id := hi.eq (List.mem_append_left _ List.mem_cons_self) (List.mem_append_right _ List.mem_cons_self) ek
        have ih := side_is ha.tail hb.tail (hi.sub fun r hr => by
          rcases List.mem_append.mp hr with k | k
          · exact List.mem_append_left _ (List.mem_cons_of_mem _ k)
          · exact List.mem_append_right _ (List.mem_cons_of_mem _ k))
        have hup : ∀ r ∈ a ++ b, ky (if sm q p then q else p) < ky r := fun r hr => by
          have : ky (if sm q p then q else p) = ky p := by
            split
            · exact ek.symm
            · rfl
          rw [this]
          rcases List.mem_append.mp hr with k | k
          · exact ha.head r k
          · have := hb.head r k; omega
        have hf := Is.front hup ih
        refine ⟨hf.up, fun r hr => ?_, fun r hr => ?_⟩
        · obtain ⟨m1, m2⟩ := hf.least r hr
          refine ⟨?_, fun u hu e => ?_⟩
          · rcases List.mem_cons.mp m1 with k | k
            · rw [k]
              split
              · exact List.mem_append_right _ List.mem_cons_self
              · exact List.mem_append_left _ List.mem_cons_self
            · rcases List.mem_append.mp k with c | c
              · exact List.mem_append_left _ (List.mem_cons_of_mem _ c)
              · exact List.mem_append_right _ (List.mem_cons_of_mem _ c)
          · have two : u = p ∨ u = q ∨ u ∈ a ++ b := by
              rcases List.mem_append.mp hu with k | k
              · rcases List.mem_cons.mp k with c | c
                · exact .inl c
                · exact .inr (.inr (List.mem_append_left _ c))
              · rcases List.mem_cons.mp k with c | c
                · exact .inr (.inl c)
                · exact .inr (.inr (List.mem_append_right _ c))
            have hs := m2 (if sm q p then q else p) List.mem_cons_self
            rcases two with k | k | k
            · subst k
              have e' : (if sm q u then q else u).id = r.id := by
                split
                · exact eid.symm.trans e
                · exact e
              have hs := hs e'
              split at hs
              · rename_i c; exact fun d => hs (sm_trans c d)
              · exact hs
            · subst k
              have e' : (if sm u p then u else p).id = r.id := by
                split
                · exact e
                · exact eid.trans e
              have hs := hs e'
              split at hs
              · exact hs
              · rename_i c; exact sm_not_trans c hs
            · exact m2 u (List.mem_cons_of_mem _ k) e
        · have three : r = p ∨ r = q ∨ r ∈ a ++ b := by
            rcases List.mem_append.mp hr with k | k
            · rcases List.mem_cons.mp k with c | c
              · exact .inl c
              · exact .inr (.inr (List.mem_append_left _ c))
            · rcases List.mem_cons.mp k with c | c
              · exact .inr (.inl c)
              · exact .inr (.inr (List.mem_append_right _ c))
          have fid : (if sm q p then q else p).id = p.id := by
            split
            · exact eid.symm
            · rfl
          rcases three with k | k | k
          · exact ⟨_, List.mem_cons_self, by rw [k]; exact fid⟩
          · exact ⟨_, List.mem_cons_self, by rw [k]; exact fid.trans eid⟩
          · obtain ⟨t, ht, et⟩ := hf.all r (List.mem_cons_of_mem _ k)
            exact ⟨t, ht, et⟩
/-- side by side is what putting one after another is -/
theorem side_puts {a b : List Pl} (ha : Up a) (hb : Up b) (hi : Ids (a ++ b)) : side a b = puts a b := (side_is ha hb hi).once (puts_is ha hi)

/-- sorted by digest, of one digest the smallest first -/
def Srt (l : List Pl) : Prop := l.Pairwise fun a b => ky a < ky b ∨ (a.id = b.id ∧ ¬ sm b a)
/-- the first of each digest, behind one of that digest -/
def firsts : Option Bs → List Pl → List Pl
  | _, [] => []
  | none, p :: x => p :: firsts (some p.id) x
  | some b, p :: x => if p.id = b then firsts (some b) x else p :: firsts (some p.id) x
theorem firsts_mem : ∀ {l : List Pl} {o : Option Bs} {r : Pl}, r ∈ firsts o l → r ∈ l
  | [], o, r, h => by cases o <;> (rw [firsts] at h; exact h)
  | p :: x, none, r, h => by
    rw [firsts] at h
    rcases List.mem_cons.mp h with e | k
    · exact e ▸ List.mem_cons_self
    · exact List.mem_cons_of_mem _ (firsts_mem k)
  | p :: x, some b, r, h => by
    rw [firsts] at h
    split at h
    · exact List.mem_cons_of_mem _ (firsts_mem h)
    · rcases List.mem_cons.mp h with e | k
      · exact e ▸ List.mem_cons_self
      · exact List.mem_cons_of_mem _ (firsts_mem k)
theorem firsts_some : ∀ {l : List Pl} {p : Pl}, Srt (p :: l) → Is (p :: l) (p :: firsts (some p.id) l)
  | [], p, _ => by rw [firsts]; exact Is.self (Up.one p)
  | q :: l, p, h => by
    obtain ⟨h1, h2⟩ := List.pairwise_cons.mp h
    rw [firsts]
    split
    · rename_i e
      have h3 : Srt (p :: l) := List.pairwise_cons.mpr ⟨fun r hr => h1 r (List.mem_cons_of_mem _ hr), (List.pairwise_cons.mp h2).2⟩
      have ih := firsts_some h3
      have hq : ¬ sm q p := by
        rcases h1 q List.mem_cons_self with k | k
        · rw [ky, ky, e] at k; omega
        · exact k.2
      refine ⟨ih.up, fun r hr => ?_, fun r hr => ?_⟩
      · obtain ⟨m1, m2⟩ := ih.least r hr
        refine ⟨?_, fun u hu eu => ?_⟩
        · rcases List.mem_cons.mp m1 with k | k
          · exact k ▸ List.mem_cons_self
          · exact List.mem_cons_of_mem _ (List.mem_cons_of_mem _ k)
        · rcases List.mem_cons.mp hu with k | k
          · exact m2 u (k ▸ List.mem_cons_self) eu
          · rcases List.mem_cons.mp k with c | c
            · subst c
              exact sm_not_trans hq (m2 p List.mem_cons_self (e.symm.trans eu))
            · exact m2 u (List.mem_cons_of_mem _ c) eu
      · rcases List.mem_cons.mp hr with k | k
        · exact ⟨p, List.mem_cons_self, by rw [k]⟩
        · rcases List.mem_cons.mp k with c | c
          · exact ⟨p, List.mem_cons_self, by rw [c, e]⟩
          · exact ih.all r (List.mem_cons_of_mem _ c)
    · rename_i hne
      have ih := firsts_some h2
      have hpq : ky p < ky q := (h1 q List.mem_cons_self).resolve_right fun k => hne k.1.symm
      refine Is.front (fun r hr => ?_) ih
      rcases List.mem_cons.mp hr with k | k
      · rw [k]; exact hpq
      · rcases (List.pairwise_cons.mp h2).1 r k with c | c
        · omega
        · rw [show ky r = ky q from by rw [ky, ky, c.1]]; exact hpq
theorem firsts_is : ∀ {l : List Pl}, Srt l → Is l (firsts none l)
  | [], _ => by rw [firsts]; exact Is.nil
  | p :: l, h => by rw [firsts]; exact firsts_some h
/-- sorted and thinned is what putting one after another is -/
theorem firsts_puts {l s : List Pl} (h : Srt s) (hm : ∀ p, p ∈ s ↔ p ∈ l) (hi : Ids l) : firsts none s = puts [] l :=
  ((firsts_is h).congr hm).once (puts_nil_is hi)
/-- places by their numbers -/
theorem Up.get {x : List Pl} (h : Up x) {i j : Nat} {p q : Pl} (hi : x[i]? = some p) (hj : x[j]? = some q) (k : i < j) : ky p < ky q := by
  have li : i < x.length := (List.getElem?_eq_some_iff.mp hi).1
  have lj : j < x.length := (List.getElem?_eq_some_iff.mp hj).1
  have ei : x[i] = p := (List.getElem?_eq_some_iff.mp hi).2
  have ej : x[j] = q := (List.getElem?_eq_some_iff.mp hj).2
  have := List.pairwise_iff_getElem.mp h i j li lj k
  rw [ei, ej] at this
  exact this
end Ix
end Go.Proofs.Ytllioidjelgafab
