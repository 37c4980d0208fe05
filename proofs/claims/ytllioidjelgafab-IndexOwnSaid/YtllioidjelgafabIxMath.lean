/-
  P31, P32 (no Go in it): places, lists of places that rise by their digests, and what an index of a heap of places is: of each digest the smallest place alone. There is one such list only, so it does not matter in which order the places are taken, or how often.
-/
import Derived.Test.YtllioidjelgafabMath
namespace Go.Proofs.Ytllioidjelgafab
namespace Ix

abbrev Bs := List UInt8
/-- a place of a blob -/
structure Pl where
  id : Bs
  kind : Int
  pack : Int
  at_ : Int
  len : Int
/-- a digest as a number: digests are held against each other byte by byte from the front -/
abbrev ky (p : Pl) : Nat := Nm.val p.id
theorem val_inj {a b : Bs} (h : a.length = b.length) (e : Nm.val a = Nm.val b) : a = b := by
  rw [← Nm.low_val a, ← Nm.low_val b, h, e]
/-- of two places of one blob, is a the smaller one? -/
abbrev sm (a b : Pl) : Prop := a.pack < b.pack ∨ (a.pack = b.pack ∧ (a.at_ < b.at_ ∨ (a.at_ = b.at_ ∧ (a.len < b.len ∨ (a.len = b.len ∧ a.kind < b.kind)))))
theorem sm_self (a : Pl) : ¬ sm a a := by unfold sm; omega
theorem sm_trans {a b c : Pl} (h : sm a b) (k : sm b c) : sm a c := by unfold sm at *; omega
theorem sm_not_trans {a b c : Pl} (h : ¬ sm a b) (k : ¬ sm b c) : ¬ sm a c := by unfold sm at *; omega
theorem sm_asym {a b : Pl} (h : sm a b) : ¬ sm b a := by unfold sm at *; omega
theorem sm_eq {a b : Pl} (h : a.id = b.id) (h1 : ¬ sm a b) (h2 : ¬ sm b a) : a = b := by
  obtain ⟨i, k, p, t, n⟩ := a
  obtain ⟨i', k', p', t', n'⟩ := b
  simp only [sm] at h h1 h2
  have e1 : p = p' := by omega
  have e2 : t = t' := by omega
  have e3 : n = n' := by omega
  have e4 : k = k' := by omega
  rw [h, e1, e2, e3, e4]
/-- every digest has eight bytes -/
def Ids (l : List Pl) : Prop := ∀ p ∈ l, p.id.length = 8
theorem Ids.nil : Ids [] := fun _ hp => absurd hp List.not_mem_nil
theorem Ids.append {l m : List Pl} (h : Ids l) (k : Ids m) : Ids (l ++ m) := fun p hp => (List.mem_append.mp hp).elim (h p) (k p)
theorem Ids.sub {l m : List Pl} (h : Ids l) (k : ∀ p ∈ m, p ∈ l) : Ids m := fun p hp => h p (k p hp)
theorem Ids.left {l m : List Pl} (h : Ids (l ++ m)) : Ids l := h.sub fun _ hp => List.mem_append_left _ hp
theorem Ids.right {l m : List Pl} (h : Ids (l ++ m)) : Ids m := h.sub fun _ hp => List.mem_append_right _ hp
theorem Ids.eq {l : List Pl} (h : Ids l) {a b : Pl} (ha : a ∈ l) (hb : b ∈ l) (e : ky a = ky b) : a.id = b.id :=
  val_inj ((h a ha).trans (h b hb).symm) e
/-- rising by digest -/
def Up (x : List Pl) : Prop := x.Pairwise fun a b => ky a < ky b
theorem Up.nil : Up [] := List.Pairwise.nil
theorem Up.one (p : Pl) : Up [p] := List.pairwise_singleton _ _
theorem Up.tail {p : Pl} {x : List Pl} (h : Up (p :: x)) : Up x := (List.pairwise_cons.mp h).2
theorem Up.head {p : Pl} {x : List Pl} (h : Up (p :: x)) : ∀ q ∈ x, ky p < ky q := (List.pairwise_cons.mp h).1
theorem Up.cons {p : Pl} {x : List Pl} (h : ∀ q ∈ x, ky p < ky q) (k : Up x) : Up (p :: x) := List.pairwise_cons.mpr ⟨h, k⟩
theorem Up.same {x : List Pl} (h : Up x) {a b : Pl} (ha : a ∈ x) (hb : b ∈ x) (e : ky a = ky b) : a = b := by
  induction x with
  | nil => exact absurd ha List.not_mem_nil
  | cons p x ih =>
    rcases List.mem_cons.mp ha with rfl | ha'
    · rcases List.mem_cons.mp hb with rfl | hb'
      · rfl
      · have := h.head b hb'; omega
    · rcases List.mem_cons.mp hb with rfl | hb'
      · have := h.head a ha'; omega
      · exact ih h.tail ha' hb'
/-- a rising list is known by what is in it -/
theorem Up.once : ∀ {x y : List Pl}, Up x → Up y → (∀ p, p ∈ x ↔ p ∈ y) → x = y
  | [], [], _, _, _ => rfl
  | [], q :: y, _, _, h => absurd ((h q).mpr List.mem_cons_self) List.not_mem_nil
  | p :: x, [], _, _, h => absurd ((h p).mp List.mem_cons_self) List.not_mem_nil
  | p :: x, q :: y, hx, hy, h => by
    have e : p = q := by
      rcases List.mem_cons.mp ((h p).mp List.mem_cons_self) with e | hp
      · exact e
      · rcases List.mem_cons.mp ((h q).mpr List.mem_cons_self) with e | hq
        · exact e.symm
        · have h1 := hy.head p hp
          have h2 := hx.head q hq
          omega
    subst e
    have t : x = y := by
      refine Up.once hx.tail hy.tail fun r => ⟨fun hr => ?_, fun hr => ?_⟩
      · rcases List.mem_cons.mp ((h r).mp (List.mem_cons_of_mem _ hr)) with e | k
        · have := hx.head r hr; rw [e] at this; omega
        · exact k
      · rcases List.mem_cons.mp ((h r).mpr (List.mem_cons_of_mem _ hr)) with e | k
        · have := hy.head r hr; rw [e] at this; omega
        · exact k
    rw [t]

/-- x is the index of the places l -/
structure Is (l x : List Pl) : Prop where
  up : Up x
  least : ∀ p ∈ x, p ∈ l ∧ ∀ q ∈ l, q.id = p.id → ¬ sm q p
  all : ∀ q ∈ l, ∃ p ∈ x, p.id = q.id
theorem Is.ids {l x : List Pl} (h : Is l x) (k : Ids l) : Ids x := k.sub fun p hp => (h.least p hp).1
theorem Is.nil : Is [] [] := ⟨Up.nil, fun _ hp => absurd hp List.not_mem_nil, fun _ hp => absurd hp List.not_mem_nil⟩
theorem Is.mem {l x y : List Pl} (h : Is l x) (k : Is l y) {p : Pl} (hp : p ∈ x) : p ∈ y := by
  obtain ⟨hl, hm⟩ := h.least p hp
  obtain ⟨q, hq, e⟩ := k.all p hl
  obtain ⟨hl', hm'⟩ := k.least q hq
  rw [sm_eq e.symm (hm' p hl e.symm) (hm q hl' e)]
  exact hq
/-- there is one index only -/
theorem Is.once {l x y : List Pl} (h : Is l x) (k : Is l y) : x = y :=
  h.up.once k.up fun _ => ⟨fun hp => h.mem k hp, fun hp => k.mem h hp⟩
theorem Is.congr {l m x : List Pl} (h : Is l x) (k : ∀ p, p ∈ l ↔ p ∈ m) : Is m x :=
  ⟨h.up, fun p hp => ⟨(k p).mp (h.least p hp).1, fun q hq e => (h.least p hp).2 q ((k q).mpr hq) e⟩, fun q hq => h.all q ((k q).mpr hq)⟩
theorem Is.self {x : List Pl} (h : Up x) : Is x x := by
  refine ⟨h, fun p hp => ⟨hp, fun q hq e => ?_⟩, fun q hq => ⟨q, hq, rfl⟩⟩
  rw [h.same hq hp (by rw [ky, ky, e])]
  exact sm_self p
/-- indices of two heaps: the index of both -/
theorem Is.join {l m x y z : List Pl} (h : Is l x) (k : Is m y) (j : Is (x ++ y) z) : Is (l ++ m) z := by
  refine ⟨j.up, fun p hp => ?_, fun q hq => ?_⟩
  · obtain ⟨hp', hs⟩ := j.least p hp
    refine ⟨?_, fun q hq e => ?_⟩
    · rcases List.mem_append.mp hp' with a | a
      · exact List.mem_append_left _ (h.least p a).1
      · exact List.mem_append_right _ (k.least p a).1
    · rcases List.mem_append.mp hq with a | a
      · obtain ⟨r, hr, er⟩ := h.all q a
        exact sm_not_trans ((h.least r hr).2 q a er.symm) (hs r (List.mem_append_left _ hr) (er.trans e))
      · obtain ⟨r, hr, er⟩ := k.all q a
        exact sm_not_trans ((k.least r hr).2 q a er.symm) (hs r (List.mem_append_right _ hr) (er.trans e))
  · rcases List.mem_append.mp hq with a | a
    · obtain ⟨r, hr, er⟩ := h.all q a
      obtain ⟨t, ht, et⟩ := j.all r (List.mem_append_left _ hr)
      exact ⟨t, ht, et.trans er⟩
    · obtain ⟨r, hr, er⟩ := k.all q a
      obtain ⟨t, ht, et⟩ := j.all r (List.mem_append_right _ hr)
      exact ⟨t, ht, et.trans er⟩

/-- a place below all of them comes in front -/
theorem Is.front {l x : List Pl} {p : Pl} (hp : ∀ r ∈ l, ky p < ky r) (h : Is l x) : Is (p :: l) (p :: x) := by
  refine ⟨Up.cons (fun r hr => hp r (h.least r hr).1) h.up, fun r hr => ?_, fun r hr => ?_⟩
  · rcases List.mem_cons.mp hr with k | k
    · subst k
      refine ⟨List.mem_cons_self, fun u hu e => ?_⟩
      rcases List.mem_cons.mp hu with c | c
      · rw [c]; exact sm_self r
      · have := hp u c; rw [ky, ky, e] at this; omega
    · obtain ⟨m1, m2⟩ := h.least r k
      refine ⟨List.mem_cons_of_mem _ m1, fun u hu e => ?_⟩
      rcases List.mem_cons.mp hu with c | c
      · subst c
        have := hp r m1
        rw [ky, ky, e] at this
        omega
      · exact m2 u c e
  · rcases List.mem_cons.mp hr with k | k
    · exact ⟨p, List.mem_cons_self, by rw [k]⟩
    · obtain ⟨t, ht, et⟩ := h.all r k
      exact ⟨t, List.mem_cons_of_mem _ ht, et⟩

/-- one more place -/
def put : List Pl → Pl → List Pl
  | [], p => [p]
  | q :: x, p => if ky p < ky q then p :: q :: x else if p.id = q.id then (if sm q p then q else p) :: x else q :: put x p
theorem mem_put {x : List Pl} {p r : Pl} (h : r ∈ put x p) : r = p ∨ r ∈ x := by
  induction x with
  | nil => rw [put] at h; exact .inl (List.mem_singleton.mp h)
  | cons q x ih =>
    rw [put] at h
    split at h
    · rcases List.mem_cons.mp h with a | a
      · exact .inl a
      · exact .inr a
    · split at h
      · rcases List.mem_cons.mp h with a | a
        · split at a
          · exact .inr (a ▸ List.mem_cons_self)
          · exact .inl a
        · exact .inr (List.mem_cons_of_mem _ a)
      · rcases List.mem_cons.mp h with a | a
        · exact .inr (a ▸ List.mem_cons_self)
        · exact (ih a).imp id (List.mem_cons_of_mem _)
theorem up_put {x : List Pl} {p : Pl} (h : Up x) (hi : Ids (p :: x)) : Up (put x p) := by
  induction x with
  | nil => exact Up.one p
  | cons q x ih =>
    rw [put]
    split
    · rename_i hlt
      refine Up.cons (fun r hr => ?_) h
      rcases List.mem_cons.mp hr with rfl | a
      · exact hlt
      · have := h.head r a; omega
    · rename_i hge
      split
      · rename_i e
        refine Up.cons (fun r hr => ?_) h.tail
        have h1 := h.head r hr
        split
        · exact h1
        · rw [ky, e]; exact h1
      · rename_i hne
        have hk : ky q < ky p := by
          have : ky p ≠ ky q := fun e => hne (hi.eq List.mem_cons_self (List.mem_cons_of_mem _ List.mem_cons_self) e)
          omega
        refine Up.cons (fun r hr => ?_) (ih h.tail (hi.sub fun r hr => ?_))
        · rcases mem_put hr with rfl | a
          · exact hk
          · exact h.head r a
        · rcases List.mem_cons.mp hr with rfl | a
          · exact List.mem_cons_self
          · exact List.mem_cons_of_mem _ (List.mem_cons_of_mem _ a)
/-- what is in a list that one more place was put into, and that it is the index -/
theorem put_self {x : List Pl} (p : Pl) (h : Up x) (hi : Ids (p :: x)) : Is (x ++ [p]) (put x p) := by
  refine ⟨up_put h hi, ?_, ?_⟩
  · induction x with
    | nil =>
      intro r hr
      rw [put] at hr
      obtain rfl := List.mem_singleton.mp hr
      exact ⟨List.mem_cons_self, fun q hq _ => by rw [List.mem_singleton.mp hq]; exact sm_self r⟩
    | cons q x ih =>
      intro r hr
      rw [put] at hr
      have hin : ∀ {u}, u ∈ x ++ [p] → u ∈ (q :: x) ++ [p] := fun hu => List.mem_cons_of_mem _ hu
      have self := Is.self h
      split at hr
      · rename_i hlt
        rcases List.mem_cons.mp hr with rfl | a
        · refine ⟨List.mem_append_right _ List.mem_cons_self, fun u hu e => ?_⟩
          rcases List.mem_append.mp hu with b | b
          · have : ky q ≤ ky u := by
              rcases List.mem_cons.mp b with rfl | c
              · exact Nat.le_refl _
              · exact Nat.le_of_lt (h.head u c)
            rw [ky, ky, e] at this
            rw [ky, ky] at hlt
            omega
          · rw [List.mem_singleton.mp b]; exact sm_self _
        · refine ⟨List.mem_append_left _ a, fun u hu e => ?_⟩
          rcases List.mem_append.mp hu with b | b
          · exact (self.least r a).2 u b e
          · obtain rfl := List.mem_singleton.mp b
            have : ky q ≤ ky r := by
              rcases List.mem_cons.mp a with rfl | c
              · exact Nat.le_refl _
              · exact Nat.le_of_lt (h.head r c)
            rw [ky, ky, ← e] at this
            rw [ky, ky] at hlt
            omega
      · rename_i hge
        split at hr
        · rename_i e0
          have other : ∀ u ∈ x, u.id ≠ q.id := fun u hu e => by have := h.head u hu; rw [ky, ky, e] at this; omega
          rcases List.mem_cons.mp hr with a | a
          · subst a
            refine ⟨?_, fun u hu e => ?_⟩
            · split
              · exact List.mem_cons_self
              · exact List.mem_append_right _ List.mem_cons_self
            · have eid : (if sm q p then q else p).id = q.id := by split; · rfl
                                                                   · exact e0
              rcases List.mem_append.mp hu with b | b
              · rcases List.mem_cons.mp b with rfl | c
                · split
                  · exact sm_self _
                  · assumption
                · exact absurd (e.trans eid) (other u c)
              · obtain rfl := List.mem_singleton.mp b
                split
                · rename_i hs; exact sm_asym hs
                · exact sm_self _
          · refine ⟨List.mem_append_left _ (List.mem_cons_of_mem _ a), fun u hu e => ?_⟩
            rcases List.mem_append.mp hu with b | b
            · exact (self.least r (List.mem_cons_of_mem _ a)).2 u b e
            · obtain rfl := List.mem_singleton.mp b
              exact absurd (e.symm.trans e0) (other r a)
        · rename_i hne
          rcases List.mem_cons.mp hr with a | a
          · subst a
            refine ⟨List.mem_cons_self, fun u hu e => ?_⟩
            rcases List.mem_append.mp hu with b | b
            · exact (self.least r List.mem_cons_self).2 u b e
            · obtain rfl := List.mem_singleton.mp b
              exact absurd e hne
          · have hi' : Ids (p :: x) := hi.sub fun t ht => by
              rcases List.mem_cons.mp ht with rfl | c
              · exact List.mem_cons_self
              · exact List.mem_cons_of_mem _ (List.mem_cons_of_mem _ c)
            obtain ⟨h1, h2⟩ := ih h.tail hi' r a
            refine ⟨hin h1, fun u hu e => ?_⟩
            rcases List.mem_cons.mp hu with b | b
            · subst b
              rcases List.mem_append.mp h1 with c | c
              · have := h.head r c; rw [ky, ky, e] at this; omega
              · obtain rfl := List.mem_singleton.mp c
                exact absurd e.symm hne
            · exact h2 u b e
  · intro u hu
    clear hi
    induction x with
    | nil => exact ⟨u, by rw [put]; exact hu, rfl⟩
    | cons q x ih =>
      rw [put]
      split
      · refine ⟨u, ?_, rfl⟩
        rcases List.mem_append.mp hu with b | b
        · exact List.mem_cons_of_mem _ b
        · rw [List.mem_singleton.mp b]; exact List.mem_cons_self
      · split
        · rename_i e0
          have eid : (if sm q p then q else p).id = q.id := by
            split
            · rfl
            · exact e0
          rcases List.mem_append.mp hu with b | b
          · rcases List.mem_cons.mp b with rfl | c
            · exact ⟨_, List.mem_cons_self, eid⟩
            · exact ⟨u, List.mem_cons_of_mem _ c, rfl⟩
          · obtain rfl := List.mem_singleton.mp b
            exact ⟨_, List.mem_cons_self, eid.trans e0.symm⟩
        · rcases List.mem_cons.mp hu with b | b
          · exact ⟨q, List.mem_cons_self, by rw [b]⟩
          · obtain ⟨r, hr, er⟩ := ih h.tail b
            exact ⟨r, List.mem_cons_of_mem _ hr, er⟩
theorem Is.put {l x : List Pl} (h : Is l x) (p : Pl) (hi : Ids (l ++ [p])) : Is (l ++ [p]) (put x p) := by
  have hx : Ids (p :: x) := hi.sub fun r hr => by
    rcases List.mem_cons.mp hr with rfl | a
    · exact List.mem_append_right _ List.mem_cons_self
    · exact List.mem_append_left _ (h.least r a).1
  exact h.join (Is.self (Up.one p)) (put_self p h.up hx)
/-- more places -/
def puts (x l : List Pl) : List Pl := l.foldl put x
theorem Is.puts {l x : List Pl} (h : Is l x) : ∀ (m : List Pl), Ids (l ++ m) → Is (l ++ m) (puts x m)
  | m, hi => by
    induction m generalizing l x with
    | nil => rw [List.append_nil]; exact h
    | cons p m ih =>
      have e : l ++ p :: m = (l ++ [p]) ++ m := by rw [List.append_assoc]; rfl
      rw [e]
      rw [e] at hi
      exact ih (h.put p hi.left) hi
theorem puts_length (m : List Pl) : ∀ x : List Pl, (puts x m).length ≤ x.length + m.length := by
  have one : ∀ (x : List Pl) (p : Pl), (put x p).length ≤ x.length + 1 := by
    intro x p
    induction x with
    | nil => exact Nat.le_refl _
    | cons q x ih =>
      rw [Ix.put]
      split
      · exact Nat.le_refl _
      · split
        · rw [List.length_cons, List.length_cons]; omega
        · rw [List.length_cons, List.length_cons]; omega
  induction m with
  | nil => intro x; exact Nat.le_refl _
  | cons p m ih =>
    intro x
    have h1 := ih (Ix.put x p)
    have h2 := one x p
    have e : puts x (p :: m) = puts (Ix.put x p) m := rfl
    rw [e, List.length_cons]
    omega
end Ix
end Go.Proofs.Ytllioidjelgafab
