/-
  Nodes in memory that read alike are alike; a row of one node.
-/
import Derived.Test.YtcgecafajgoeeaaDoorNdMem
import Derived.Test.YtcgecafajgoeeaaDoorNnCheck
namespace Go.Proofs.YtcgecafajgoeeaaDoor
open Go.RowKit

theorem Nod.nd_inj {a b : Nod} (h : a.nd = b.nd) : a = b := by
  obtain ⟨n, k, m, t, z, p, l⟩ := a
  obtain ⟨n', k', m', t', z', p', l'⟩ := b
  simp only [Nod.nd, Td.Nd.mk.injEq] at h
  obtain ⟨h1, rfl, rfl, rfl, rfl, rfl, h7⟩ := h
  have e1 : n = n' := ByteArray.ext (Array.toList_inj.1 h1)
  have e7 : l = l' := ByteArray.ext (Array.toList_inj.1 h7)
  rw [e1, e7]
theorem nds_inj : ∀ {l m : List Nod}, nds l = nds m → l = m
  | [], [], _ => rfl
  | [], _ :: _, h => by cases h
  | _ :: _, [], h => by cases h
  | a :: l, b :: m, h => by
    have h1 : a.nd = b.nd := (List.cons.inj h).1
    have h2 : nds l = nds m := (List.cons.inj h).2
    rw [Nod.nd_inj h1, nds_inj h2]
theorem Nds.ok {w : World} {v : Value} {l : List Nod} (h : Nds w v l) : ∀ n ∈ l, n.Ok := fun n hn => by
  obtain ⟨a, c, rfl⟩ := h.slice
  obtain ⟨j, hj, rfl⟩ := List.getElem_of_mem hn
  obtain ⟨_, _, _, _, _, _, ⟨_, _, _, ho⟩, _⟩ := h.get j _ (List.getElem?_eq_getElem hj)
  exact ho
theorem Nds.wn {w : World} {v : Value} {l : List Nod} (h : Nds w v l) : ∀ n ∈ nds l, Td.Wn n := fun n hn => by
  obtain ⟨m, hm, rfl⟩ := List.mem_map.1 hn
  exact (h.ok m hm).wn
/-- the node of TreeBack's own -/
def nodA : Nod := ⟨⟨#[97]⟩, 3, 0, 0, 0, [], ⟨#[98]⟩⟩
theorem nodA_row (w : World) : Nds (w.alloc (.cells #[.string ⟨#[97]⟩, .int .i64 3, .int .i64 0, .int .i64 0, .int .i64 0, .slice none 0 0, .string ⟨#[98]⟩] 32)) (.slice (some ⟨w.heap.size, 0, none⟩) 1 1) [nodA] := by
  refine ⟨.inr ⟨w.heap.size, 0, 1, rfl, Nat.le_refl _, by simp, fun j t hj => ?_⟩⟩
  cases j with
  | succ j => simp at hj
  | zero =>
    obtain rfl : nodA = t := by simpa using hj
    refine ⟨_, rfl, ⟨.slice none 0 0, rfl, ⟨.inl ⟨⟨_, _, rfl⟩, rfl⟩, _, _, _, rfl, Nat.le_refl _, by omega⟩, ⟨rfl, rfl, rfl, rfl, by decide, by decide, fun p hp => absurd hp List.not_mem_nil⟩⟩, fun r u hu => ?_⟩
    match r, hu with
    | 0, hu => simp at hu; subst hu; simp; rfl
    | 1, hu => simp at hu; subst hu; simp; rfl
    | 2, hu => simp at hu; subst hu; simp; rfl
    | 3, hu => simp at hu; subst hu; simp; rfl
    | 4, hu => simp at hu; subst hu; simp; rfl
    | 5, hu => simp at hu; subst hu; simp
    | 6, hu => simp at hu; subst hu; simp; rfl
theorem nm_a : Nn.nm [97] = 0 := by
  have hc : Nn.chars [97] = some [97] := by
    rw [Nn.chars_step _ (by simp), Nn.chr_ascii 97 _ (by decide)]
    rfl
  unfold Nn.nm
  rw [hc]
  rfl
theorem write_a : (Td.write (nds [nodA])).2 = 0 ∧ (Td.write (nds [nodA])).1 ≠ [] := by
  have hn : Td.nErr nodA.nd = 0 := by
    unfold Td.nErr
    rw [show nodA.nd.name = [97] from rfl, nm_a]
    rfl
  have hc : Td.check (nds [nodA]) = 0 := by
    unfold Td.check
    rw [if_neg (by rw [nds_length]; decide)]
    show Td.ckB none [nodA.nd] = 0
    rw [Td.ckB, hn]
    rfl
  have hl : ¬ 4096 < (Td.textB (nds [nodA])).length := by decide
  unfold Td.write
  rw [if_neg (fun q => q hc), if_neg hl]
  exact ⟨rfl, by decide⟩
end Go.Proofs.YtcgecafajgoeeaaDoor
