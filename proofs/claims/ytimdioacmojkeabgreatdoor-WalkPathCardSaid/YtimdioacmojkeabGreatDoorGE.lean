/-
  P48: what file of walk's reaper answers.
  The library's contracts at this program: strings_Count_one (laid by the guide's own tools, written out in plain words).
  P48: what node of walk's reaper answers.
  P48: what directory of walk's reaper answers.
  P48: what Reap of package walk answers.
  P48 (no Go in it): fine blobs, whatever their order, with all of a planted world's among them: what is reaped is the world.
  What is sure of a world that was planted without an error.
  Two items compared; slices.Equal over two rows of items: are they the same?
  The statements' small world is planted and reaped: what 'walked' answers.
  Nodes handed in, read as data: opened.
  Blobs, ways and items handed in and read as data: opened, shut, and how great they may be.
  What the rows list of unicode/utf8's tables is what ValidString's contract asks.
-/
import Derived.Test.YtimdioacmojkeabGreatDoorGD
import Derived.Test.YtimdioacmojkeabGreatDoorGC
import Derived.Test.YtimdioacmojkeabGreatDoorGB
import Derived.Lib.Strings
import Derived.Shelf.Strings.Count
import Derived.Test.YtimdioacmojkeabGreatDoorProg
import Derived.Laws.AppendOwn
import Derived.Deep.AppendLies
import Derived.Deep.RegionLaw
import Derived.Deep.RegionWith
import Derived.Deep.Cut
import Derived.Test.YtimdioacmojkeabGreatDoorGA
import Derived.Test.YtimdioacmojkeabGreatDoorRows
import Derived.Lib.SmallJoins
import Derived.Lib.LaidU8T
import Derived.SliceStrings

namespace Go.Proofs.YtimdioacmojkeabGreatDoor
open Go.RowKit
set_option maxRecDepth 4000

theorem rfile_step {L : List Pk.Bl} {size : Int} {ps : List Wk.Bs} {j : Nat} {id : Wk.Bs} (hx : ps[j]? = some id) {out : Wk.Bs} {R : Wk.Bs × Int} (h : R = Wk.reapFile L size (ps.drop j) out) :
    ((Wk.blobOf L id 1).2 ≠ 0 → R = ([], (Wk.blobOf L id 1).2)) ∧ ((Wk.blobOf L id 1).2 = 0 → size < ((out ++ (Wk.blobOf L id 1).1).length : Int) → R = ([], 4)) ∧
    ((Wk.blobOf L id 1).2 = 0 → ¬ size < ((out ++ (Wk.blobOf L id 1).1).length : Int) → R = Wk.reapFile L size (ps.drop (j + 1)) (out ++ (Wk.blobOf L id 1).1)) := by
  have hlt := (List.getElem?_eq_some_iff.1 hx).1
  have e0 : ps.drop j = id :: ps.drop (j + 1) := by rw [List.drop_eq_getElem_cons hlt, (List.getElem?_eq_some_iff.1 hx).2]
  rw [e0, Wk.reapFile] at h
  refine ⟨fun hE => ?_, fun hE hs => ?_, fun hE hs => ?_⟩
  · rw [h, if_pos hE]
  · rw [h, if_neg (fun q => q hE), if_pos hs]
  · rw [h, if_neg (fun q => q hE), if_neg hs]

/-- blobs of a heap are of at most 4096 bytes -/
def Sm (bs : List Blb) : Prop := ∀ x ∈ bs, x.bytes.size ≤ 4096

theorem blobOf_small {bs : List Blb} (h : Sm bs) (id : Wk.Bs) (k : Int) : (Wk.blobOf (pl bs) id k).1.length ≤ 4096 := by
  unfold Wk.blobOf
  rcases find_bid bs id with ⟨h1, _⟩ | ⟨o, ho, h1, _⟩
  · rw [h1]; simp
  · rw [h1]
    dsimp only
    split
    · simp
    · have := h o ho
      rw [Lib.size_eq] at this
      exact this

set_option maxHeartbeats 4000000 in
set_option maxRecDepth 10000 in
theorem rfile_any (b m nq : Nat) (bs : List Blb) (n : Nod) (pv iv : Value) (w : World) (hb : w.heap[b]? = some (.cells #[.map (some m), iv] 71 (0, 0))) (hm : Mp w m nq (mpB bs)) (hsm : Sm bs)
    (hp : Rx 8 idC w pv n.parts) (h8 : ∀ t ∈ n.parts, t.length = 8) (hs0 : 0 ≤ n.size) (hs1 : n.size ≤ 4096) (hl : n.parts.length ≤ 300) (R : Wk.Bs × Int) (hR : R = Wk.reapFile (pl bs) n.size n.parts []) :
    Calls Tryz.prog 62 #[.pointer (some ⟨b, 0, none⟩), .agg (ndC n pv).toArray] w fun e w' => e = .returned (.tuple #[.string ⟨R.1.toArray⟩, .int .i64 R.2]) ∧ Below w.heap.size w w' ∧ R.1.length ≤ 4096 := by
  obtain ⟨i0, hi, hz0, hz1, hz2⟩ := info_parts info_u8
  obtain ⟨name, kind, mode, time, size, parts, link⟩ := n
  dsimp only [ndC] at *
  obtain ⟨sz, rfl⟩ := Int.eq_ofNat_of_zero_le hs0
  obtain ⟨pa, pc, rfl, hpc1, hpc2⟩ := hp.slice
  obtain ⟨W1, hW1⟩ : ∃ W1, W1 = w.alloc (.cells #[.string name, .int .i64 kind, .int .i64 mode, .int .i64 time, .int .i64 sz, .slice pa parts.length pc, .string link] 80) := ⟨_, rfl⟩
  have hB1 : Below w.heap.size w W1 := by rw [hW1]; exact (Below.refl _ w).alloc (Nat.le_refl _) _
  have HB1 : Hid (Below w.heap.size w W1) := hB1
  have HW1s : Hid (W1.heap.size = w.heap.size + 1) := by show _ = _; rw [hW1, World.size_alloc]
  have HM : Hid (W1.heap[w.heap.size]? = some (.cells #[.string name, .int .i64 kind, .int .i64 mode, .int .i64 time, .int .i64 sz, .slice pa parts.length pc, .string link] 80 (0, 0))) := by rw [hW1]; exact heap_alloc_new w _
  have HR0 : Hid (R = Wk.reapFile (pl bs) sz (parts.drop 0) []) := hR
  have HX : Hid (Rx 8 idC w (.slice pa parts.length pc) parts) := hp
  have HR2 : Hid (w.heap[b]? = some (.cells #[.map (some m), iv] 71 (0, 0))) := hb
  have HMp : Hid (Mp w m nq (mpB bs)) := hm
  have HSm : Hid (Sm bs) := hsm
  have H8 : Hid (∀ t ∈ parts, t.length = 8) := h8
  obtain ⟨n0, n1, n2, n3, n4, n5, n6, nlt⟩ := sev_at HM.out
  obtain ⟨N, hN⟩ : ∃ N, N = parts.length := ⟨_, rfl⟩
  have HN : Hid (N = parts.length) := hN
  rw [← hN] at HX n5 HM hl ⊢
  obtain ⟨PB, hPB⟩ : ∃ PB, PB = w.heap.size := ⟨_, rfl⟩
  have HPB : Hid (PB = w.heap.size) := hPB
  rw [← hN] at hW1
  clear hR hp hb hm hsm h8 hB1 hpc1 hpc2 hN
  go_enter Tryz.func62, Tryz.ntmps62
  go_upto_region 1 with fail
  rw [← hW1]
  clear hW1
  rw [← hPB] at HM n0 n1 n2 n3 n4 n5 n6 nlt ⊢
  clear hPB
  go_wp2_with fail
  go_loopw [6, 14] (fun vo i wr => ∃ (j : Nat) (out : Wk.Bs), j ≤ N ∧ i = .int .i64 j ∧ out.length ≤ 4096 ∧ (out.length : Int) ≤ sz ∧ Hid (R = Wk.reapFile (pl bs) sz (parts.drop j) out) ∧ Hid (wr.ownsRow (w.heap.size + 1) 5 1 vo out.length (out.map B)) ∧ Hid (Below w.heap.size w wr) ∧ Hid (Below W1.heap.size W1 wr)) (fun _ i _ => N - (intOf i).toNat)
  case atStart => exact ⟨0, [], by omega, rfl, by simp, by simp, HR0, World.ownsRow_nil _ _ _ _, HB1, Below.refl _ _⟩
  case round =>
    clear HR0 HB1
    obtain ⟨j, out, hj, rfl, ho1, ho2, HR, HO, HB, HB1⟩ := hrel
    have hnd := (HB1.out.block _ (Array.getElem?_eq_some_iff.1 HM.out).1).trans HM.out
    obtain ⟨d0, d1, d2, d3, d4, d5, d6, dlt⟩ := sev_at hnd
    clear n0 n1 n2 n3 n4 n5 n6 nlt
    obtain ⟨oa, oc, evo⟩ := own_form HO.out
    subst evo
    by_cases hlt : j < N
    · have hjl : j < parts.length := by rw [← HN.out]; exact hlt
      obtain ⟨id, hx⟩ : ∃ id, parts[j]? = some id := ⟨_, List.getElem?_eq_getElem hjl⟩
      have hid := H8.out id (List.mem_of_getElem? hx)
      obtain ⟨s1, s2, s3⟩ := rfile_step hx HR.out
      have hXr := HX.out.below HB.out
      rw [HN.out] at hXr
      obtain ⟨kb, ko, rfl, hkb, hcell⟩ := hXr.get j id hx
      obtain ⟨b0, b1, b2, b3, b4, b5, b6, b7, rfl⟩ := eight id hid
      obtain ⟨x0, x1, x2, x3, x4, x5, x6, x7⟩ : wr.cell? ⟨kb, ko + j * 8, none⟩ = some (.int .u8 (b0.toNat : Int)) ∧ wr.cell? ⟨kb, ko + j * 8 + 1, none⟩ = some (.int .u8 (b1.toNat : Int)) ∧ wr.cell? ⟨kb, ko + j * 8 + 2, none⟩ = some (.int .u8 (b2.toNat : Int)) ∧ wr.cell? ⟨kb, ko + j * 8 + 3, none⟩ = some (.int .u8 (b3.toNat : Int)) ∧
          wr.cell? ⟨kb, ko + j * 8 + 4, none⟩ = some (.int .u8 (b4.toNat : Int)) ∧ wr.cell? ⟨kb, ko + j * 8 + 5, none⟩ = some (.int .u8 (b5.toNat : Int)) ∧ wr.cell? ⟨kb, ko + j * 8 + 6, none⟩ = some (.int .u8 (b6.toNat : Int)) ∧ wr.cell? ⟨kb, ko + j * 8 + 7, none⟩ = some (.int .u8 (b7.toNat : Int)) :=
        ⟨hcell 0 _ rfl, hcell 1 _ rfl, hcell 2 _ rfl, hcell 3 _ rfl, hcell 4 _ rfl, hcell 5 _ rfl, hcell 6 _ rfl, hcell 7 _ rfl⟩
      have hgl := blobOf_small HSm.out [b0, b1, b2, b3, b4, b5, b6, b7] 1
      obtain ⟨WA, hWA⟩ : ∃ WA, WA = wr.alloc (.cells #[.int .u8 (b0.toNat : Int), .int .u8 (b1.toNat : Int), .int .u8 (b2.toNat : Int), .int .u8 (b3.toNat : Int), .int .u8 (b4.toNat : Int), .int .u8 (b5.toNat : Int), .int .u8 (b6.toNat : Int), .int .u8 (b7.toNat : Int)] 30) := ⟨_, rfl⟩
      have hbA : Below wr.heap.size wr WA := by rw [hWA]; exact (Below.refl _ wr).alloc (Nat.le_refl _) _
      have HBA : Hid (Below w.heap.size w WA) := HB.out.trans (hbA.mono HB.out.size)
      have HB1A : Hid (Below W1.heap.size W1 WA) := HB1.out.trans (hbA.mono HB1.out.size)
      have HOA : Hid (WA.ownsRow (w.heap.size + 1) 5 1 (.slice oa out.length oc) out.length (out.map B)) := own_below HO.out hbA
      have hIA : WA.heap[wr.heap.size]? = some (.cells #[.int .u8 (b0.toNat : Int), .int .u8 (b1.toNat : Int), .int .u8 (b2.toNat : Int), .int .u8 (b3.toNat : Int), .int .u8 (b4.toNat : Int), .int .u8 (b5.toNat : Int), .int .u8 (b6.toNat : Int), .int .u8 (b7.toNat : Int)] 30 (0, 0)) := by rw [hWA]; exact heap_alloc_new wr _
      have HcI : Hid (∀ W, Gw WA W → W.cell? ⟨wr.heap.size, 0, none⟩ = some (.int .u8 (b0.toNat : Int)) ∧ W.cell? ⟨wr.heap.size, 1, none⟩ = some (.int .u8 (b1.toNat : Int)) ∧ W.cell? ⟨wr.heap.size, 2, none⟩ = some (.int .u8 (b2.toNat : Int)) ∧ W.cell? ⟨wr.heap.size, 3, none⟩ = some (.int .u8 (b3.toNat : Int)) ∧ W.cell? ⟨wr.heap.size, 4, none⟩ = some (.int .u8 (b4.toNat : Int)) ∧ W.cell? ⟨wr.heap.size, 5, none⟩ = some (.int .u8 (b5.toNat : Int)) ∧ W.cell? ⟨wr.heap.size, 6, none⟩ = some (.int .u8 (b6.toNat : Int)) ∧ W.cell? ⟨wr.heap.size, 7, none⟩ = some (.int .u8 (b7.toNat : Int))) := fun W hW =>
        (I8.laid ((Below.block hW _ (Array.getElem?_eq_some_iff.1 hIA).1).trans hIA)).cells
      have HcB : Hid (∀ W, Gw WA W → W.cell? ⟨b, 0, none⟩ = some (.map (some m))) := fun W hW => by
        have h1 := (HBA.out.block _ (Array.getElem?_eq_some_iff.1 HR2.out).1).trans HR2.out
        have h2 := (Below.block hW _ (Array.getElem?_eq_some_iff.1 h1).1).trans h1
        simp [World.cell?, h2]
      have hget : ∀ W, Gw WA W → Calls Tryz.prog 43 #[.map (some m), .agg #[.int .u8 (b0.toNat : Int), .int .u8 (b1.toNat : Int), .int .u8 (b2.toNat : Int), .int .u8 (b3.toNat : Int), .int .u8 (b4.toNat : Int), .int .u8 (b5.toNat : Int), .int .u8 (b6.toNat : Int), .int .u8 (b7.toNat : Int)], .int .i64 1] W fun e w' => e = .returned (.tuple #[.string ⟨(Wk.blobOf (pl bs) [b0, b1, b2, b3, b4, b5, b6, b7] 1).1.toArray⟩, .int .i64 (Wk.blobOf (pl bs) [b0, b1, b2, b3, b4, b5, b6, b7] 1).2]) ∧ Below W.heap.size W w' :=
        fun W hW => hget_any m nq bs [b0, b1, b2, b3, b4, b5, b6, b7] rfl 1 W ((HMp.out.below HBA.out).below hW)
      rcases hG : Wk.blobOf (pl bs) [b0, b1, b2, b3, b4, b5, b6, b7] 1 with ⟨gs, GE⟩
      rw [hG] at hget s1 s2 s3 hgl
      dsimp only at hget s1 s2 s3 hgl
      obtain ⟨GS, hGS⟩ : ∃ GS : ByteArray, GS = ⟨gs.toArray⟩ := ⟨_, rfl⟩
      have hGd : GS.data.toList = gs := by rw [hGS]
      rw [← hGS] at hget
      obtain ⟨gz, hgz⟩ : ∃ gz, gz = GS.size := ⟨_, rfl⟩
      have hgsz : gz = gs.length := by rw [hgz, Lib.size_eq, hGd]
      rw [← hGd, List.length_append] at s2 s3
      have HS1 : Hid (GE ≠ 0 → R = ([], GE)) := s1
      have HS2 : Hid (GE = 0 → (sz : Int) < ((out.length + GS.data.toList.length : Nat) : Int) → R = ([], 4)) := s2
      have HS3 : Hid (GE = 0 → ¬ (sz : Int) < ((out.length + GS.data.toList.length : Nat) : Int) → R = Wk.reapFile (pl bs) sz (parts.drop (j + 1)) (out ++ GS.data.toList)) := s3
      have HGz : Hid (GS.data.toList.length = gz ∧ gz = GS.size ∧ gz ≤ 4096) := ⟨by rw [hGd, hgsz], hgz, by omega⟩
      have hgz2 : GS.size ≤ 4096 := by omega
      obtain ⟨ON, hON⟩ : ∃ ON, ON = out.length := ⟨_, rfl⟩
      have HON : Hid (ON = out.length) := hON
      rw [← hON] at HOA ho1 ho2 ⊢
      clear s1 s2 s3 hG hGS hGd hgz hgsz hgl hXr hx hid hcell hIA hbA HO HB HB1 HR hON hjl
      go_upto_region 5 with fail
      rw [← hWA]
      clear hWA x0 x1 x2 x3 x4 x5 x6 x7 hkb d0 d1 d2 d3 d4 d5 d6 dlt hnd
      by_cases hE : GE = 0
      case neg =>
        have HRe : Hid (R = ([], GE)) := HS1.out hE
        have hne : (GE != 0) = true := by rw [bne_iff_ne]; exact hE
        clear HS1 HS2 HS3 hE
        refine wp_region_rel (G := Gw) (W0 := WA) Gw.refl Gw.trans (by kernel_rfl) (by kernel_rfl) (by kernel_rfl) (Below.refl _ WA).drew ?_
        refine .inl ⟨.pointer (some ⟨b, 0, none⟩), fun v W hW hd => step_run rfl _ W (by clear hd; go_simp) rfl (Gw.refl _), ?_⟩
        simp only [Act.put, List.setIfInBounds_toArray, List.set_cons_zero, List.set_cons_succ]
        refine .inl ⟨.pointer (some ⟨b, 0, none⟩), fun v W hW hd => step_run rfl _ W (by clear hd; go_simp) rfl (Gw.refl _), ?_⟩
        simp only [Act.put, List.setIfInBounds_toArray, List.set_cons_zero, List.set_cons_succ]
        refine .inl ⟨.pointer (some ⟨b, 0, none⟩), fun v W hW hd => step_run rfl _ W (by clear hd; go_simp) rfl (Gw.refl _), ?_⟩
        simp only [Act.put, List.setIfInBounds_toArray, List.set_cons_zero, List.set_cons_succ]
        refine .inl ⟨.map (some m), fun v W hW hd => step_run rfl _ W (by clear hd; have ce := HcB.out W hW; go_simp) rfl (Gw.refl _), ?_⟩
        simp only [Act.put, List.setIfInBounds_toArray, List.set_cons_zero, List.set_cons_succ]
        refine .inl ⟨.agg #[.int .u8 (b0.toNat : Int), .int .u8 (b1.toNat : Int), .int .u8 (b2.toNat : Int), .int .u8 (b3.toNat : Int), .int .u8 (b4.toNat : Int), .int .u8 (b5.toNat : Int), .int .u8 (b6.toNat : Int), .int .u8 (b7.toNat : Int)], fun v W hW hd => step_run rfl _ W (by clear hd; obtain ⟨c0, c1, c2, c3, c4, c5, c6, c7⟩ := HcI.out W hW; go_simp) rfl (Gw.refl _), ?_⟩
        simp only [Act.put, List.setIfInBounds_toArray, List.set_cons_zero, List.set_cons_succ]
        refine .inl ⟨.tuple #[.string GS, .int .i64 GE], fun v W hW hd => step_call rfl 43 #[.map (some m), .agg #[.int .u8 (b0.toNat : Int), .int .u8 (b1.toNat : Int), .int .u8 (b2.toNat : Int), .int .u8 (b3.toNat : Int), .int .u8 (b4.toNat : Int), .int .u8 (b5.toNat : Int), .int .u8 (b6.toNat : Int), .int .u8 (b7.toNat : Int)], .int .i64 1] (by clear hd; go_simp) ((hget W hW).mono fun e w' h => ⟨_, h.1, rfl, h.2⟩), ?_⟩
        simp only [Act.put, List.setIfInBounds_toArray, List.set_cons_zero, List.set_cons_succ]
        refine .inl ⟨.tuple #[.string GS, .int .i64 GE], fun v W hW hd => step_run rfl _ W (by clear hd; go_simp) rfl (Gw.refl _), ?_⟩
        simp only [Act.put, List.setIfInBounds_toArray, List.set_cons_zero, List.set_cons_succ]
        refine .inl ⟨.string GS, fun v W hW hd => step_run rfl _ W (by clear hd; go_simp) rfl (Gw.refl _), ?_⟩
        simp only [Act.put, List.setIfInBounds_toArray, List.set_cons_zero, List.set_cons_succ]
        refine .inl ⟨.int .i64 GE, fun v W hW hd => step_run rfl _ W (by clear hd; go_simp) rfl (Gw.refl _), ?_⟩
        simp only [Act.put, List.setIfInBounds_toArray, List.set_cons_zero, List.set_cons_succ]
        refine .inl ⟨.string GS, fun v W hW hd => step_run rfl _ W (by clear hd; go_simp) rfl (Gw.refl _), ?_⟩
        simp only [Act.put, List.setIfInBounds_toArray, List.set_cons_zero, List.set_cons_succ]
        refine .inl ⟨.int .i64 GE, fun v W hW hd => step_run rfl _ W (by clear hd; go_simp) rfl (Gw.refl _), ?_⟩
        simp only [Act.put, List.setIfInBounds_toArray, List.set_cons_zero, List.set_cons_succ]
        intro v w3 hW3 hV
        clear hV
        have HB3 : Hid (Below w.heap.size w w3) := HBA.out.trans (Below.mono hW3 HBA.out.size)
        clear hget HcI HcB hW3
        go_wp2_with fail
        go_ret2
        exact ⟨by rw [HRe.out]; rfl, HB3.out, by rw [HRe.out]; simp⟩
      have HSz := (show Hid _ from HS2.out hE)
      have HSy := (show Hid _ from HS3.out hE)
      subst hE
      clear HS1 HS2 HS3
      refine wp_region_rel (G := Gw) (W0 := WA) Gw.refl Gw.trans (by kernel_rfl) (by kernel_rfl) (by kernel_rfl) (Below.refl _ WA).drew ?_
      refine .inl ⟨.pointer (some ⟨b, 0, none⟩), fun v W hW hd => step_run rfl _ W (by clear hd; go_simp) rfl (Gw.refl _), ?_⟩
      simp only [Act.put, List.setIfInBounds_toArray, List.set_cons_zero, List.set_cons_succ]
      refine .inl ⟨.pointer (some ⟨b, 0, none⟩), fun v W hW hd => step_run rfl _ W (by clear hd; go_simp) rfl (Gw.refl _), ?_⟩
      simp only [Act.put, List.setIfInBounds_toArray, List.set_cons_zero, List.set_cons_succ]
      refine .inl ⟨.pointer (some ⟨b, 0, none⟩), fun v W hW hd => step_run rfl _ W (by clear hd; go_simp) rfl (Gw.refl _), ?_⟩
      simp only [Act.put, List.setIfInBounds_toArray, List.set_cons_zero, List.set_cons_succ]
      refine .inl ⟨.map (some m), fun v W hW hd => step_run rfl _ W (by clear hd; have ce := HcB.out W hW; go_simp) rfl (Gw.refl _), ?_⟩
      simp only [Act.put, List.setIfInBounds_toArray, List.set_cons_zero, List.set_cons_succ]
      refine .inl ⟨.agg #[.int .u8 (b0.toNat : Int), .int .u8 (b1.toNat : Int), .int .u8 (b2.toNat : Int), .int .u8 (b3.toNat : Int), .int .u8 (b4.toNat : Int), .int .u8 (b5.toNat : Int), .int .u8 (b6.toNat : Int), .int .u8 (b7.toNat : Int)], fun v W hW hd => step_run rfl _ W (by clear hd; obtain ⟨c0, c1, c2, c3, c4, c5, c6, c7⟩ := HcI.out W hW; go_simp) rfl (Gw.refl _), ?_⟩
      simp only [Act.put, List.setIfInBounds_toArray, List.set_cons_zero, List.set_cons_succ]
      refine .inl ⟨.tuple #[.string GS, .int .i64 0], fun v W hW hd => step_call rfl 43 #[.map (some m), .agg #[.int .u8 (b0.toNat : Int), .int .u8 (b1.toNat : Int), .int .u8 (b2.toNat : Int), .int .u8 (b3.toNat : Int), .int .u8 (b4.toNat : Int), .int .u8 (b5.toNat : Int), .int .u8 (b6.toNat : Int), .int .u8 (b7.toNat : Int)], .int .i64 1] (by clear hd; go_simp) ((hget W hW).mono fun e w' h => ⟨_, h.1, rfl, h.2⟩), ?_⟩
      simp only [Act.put, List.setIfInBounds_toArray, List.set_cons_zero, List.set_cons_succ]
      refine .inl ⟨.tuple #[.string GS, .int .i64 0], fun v W hW hd => step_run rfl _ W (by clear hd; go_simp) rfl (Gw.refl _), ?_⟩
      simp only [Act.put, List.setIfInBounds_toArray, List.set_cons_zero, List.set_cons_succ]
      refine .inl ⟨.string GS, fun v W hW hd => step_run rfl _ W (by clear hd; go_simp) rfl (Gw.refl _), ?_⟩
      simp only [Act.put, List.setIfInBounds_toArray, List.set_cons_zero, List.set_cons_succ]
      refine .inl ⟨.int .i64 0, fun v W hW hd => step_run rfl _ W (by clear hd; go_simp) rfl (Gw.refl _), ?_⟩
      simp only [Act.put, List.setIfInBounds_toArray, List.set_cons_zero, List.set_cons_succ]
      refine .inl ⟨.string GS, fun v W hW hd => step_run rfl _ W (by clear hd; go_simp) rfl (Gw.refl _), ?_⟩
      simp only [Act.put, List.setIfInBounds_toArray, List.set_cons_zero, List.set_cons_succ]
      refine .inl ⟨.int .i64 0, fun v W hW hd => step_run rfl _ W (by clear hd; go_simp) rfl (Gw.refl _), ?_⟩
      simp only [Act.put, List.setIfInBounds_toArray, List.set_cons_zero, List.set_cons_succ]
      intro v w3 hW3 hV
      clear hV
      have HB3 : Hid (Below w.heap.size w w3) := HBA.out.trans (Below.mono hW3 HBA.out.size)
      have HB13 : Hid (Below W1.heap.size W1 w3) := HB1A.out.trans (Below.mono hW3 HB1A.out.size)
      have ho3 : w3.ownsRow (w.heap.size + 1) 5 1 (.slice oa ON oc) ON (out.map B) := own_below HOA.out hW3
      have hws : w.heap.size + 1 ≤ w3.heap.size := by
        have h1 := HB13.out.size
        have h2 := (Array.getElem?_eq_some_iff.1 HM.out).1
        have h3 := HPB.out
        omega
      clear hget HcI HcB hW3
      go_wp2_with (at_builtin; refine Lib.wpList_append_own_string _ rfl (.tmp 30) (.tmp 31) 89 9 rfl (w.heap.size + 1) 5 i0 Tryz.underlying89 Tryz.underlying9 hi hz0 hz1 hz2 _ _ _ rfl ho3 GS rfl ?c3 ?c4 ?c5 ?_)
      case c3 => unfold maxLen; omega
      case c4 => omega
      intro v1 w5 hown5 hgrow _
      have hb5 : Below (w.heap.size + 1) w3 w5 := (Below.refl _ w3).grown hgrow hws fun q hq => (ho3.lt q hq).1
      have HB5 : Hid (Below w.heap.size w w5) := HB3.out.trans (hb5.mono (by omega))
      have HB15 : Hid (Below W1.heap.size W1 w5) := HB13.out.trans (hb5.mono (Nat.le_of_eq HW1s.out))
      have hnd5 := (HB15.out.block _ (Array.getElem?_eq_some_iff.1 HM.out).1).trans HM.out
      obtain ⟨d0, d1, d2, d3, d4, d5, d6, dlt⟩ := sev_at hnd5
      have HO5 : Hid (w5.ownsRow (w.heap.size + 1) 5 1 v1 (out ++ GS.data.toList).length ((out ++ GS.data.toList).map B)) := by
        show World.ownsRow _ _ _ _ _ _ _
        rw [List.length_append, ← HON.out, HGz.out.1, HGz.out.2.1, List.map_append]
        exact hown5
      have HLn : Hid ((out.length + GS.data.toList.length : Nat) = ON + GS.size) := by show _ = _; rw [← HON.out, HGz.out.1, HGz.out.2.1]
      obtain ⟨va, vc, ev1⟩ := own_form hown5
      subst ev1
      clear hown5 hgrow hb5 ho3 hnd5
      by_cases hgt : sz < ON + GS.size
      · have HRe : Hid (R = ([], 4)) := HSz.out (by rw [HLn.out]; exact_mod_cast hgt)
        clear HSz HSy
        go_wp2_with fail
        go_ret2
        exact ⟨by rw [HRe.out]; rfl, HB5.out, by rw [HRe.out]; simp⟩
      · have HRn : Hid (R = Wk.reapFile (pl bs) sz (parts.drop (j + 1)) (out ++ GS.data.toList)) := HSy.out (by rw [HLn.out]; omega)
        have ho5 : (out ++ GS.data.toList).length ≤ 4096 := by rw [List.length_append, HLn.out]; omega
        have ho6 : (((out ++ GS.data.toList).length : Nat) : Int) ≤ sz := by rw [List.length_append, HLn.out]; omega
        clear HSz HSy
        go_wp2_with fail
        go_roundw
        case measure => simp only [intOf]; omega
        case rel => exact ⟨j + 1, out ++ GS.data.toList, by omega, by go_num, ho5, ho6, HRn, HO5, HB5, HB15⟩
    · obtain rfl : j = N := by omega
      have hRz : R = if (out.length : Int) ≠ sz then ([], 4) else (out, 0) := by
        have e : parts.drop j = [] := by rw [HN.out]; exact List.drop_of_length_le (Nat.le_refl _)
        rw [HR.out, e]; rfl
      have hstr := run_str HO.out
      have HOl : Hid (out.length ≤ 4096) := ho1
      by_cases hsz : out.length < sz
      · have HRe : Hid (R = ([], 4)) := by show _ = _; rw [hRz, if_pos (by omega)]
        generalize out.length = ON at *
        clear hRz HR
        go_wp2_with fail
        go_ret2
        exact ⟨by rw [HRe.out]; rfl, HB.out, by rw [HRe.out]; simp⟩
      · have HRe : Hid (R = (out, 0)) := by show _ = _; rw [hRz, if_neg (by omega)]
        obtain ⟨OS, hOS⟩ : ∃ OS : ByteArray, OS = ⟨out.toArray⟩ := ⟨_, rfl⟩
        have HOS : Hid (OS = ⟨out.toArray⟩) := hOS
        rw [← hOS] at hstr
        generalize hON : out.length = ON at *
        clear hRz HR hOS
        go_wp2_with fail
        go_ret2
        exact ⟨by rw [HRe.out, HOS.out]; rfl, HB.out, by rw [HRe.out]; show out.length ≤ 4096; rw [hON]; exact HOl.out⟩

end Go.Proofs.YtimdioacmojkeabGreatDoor

namespace Go.Proofs
open Go.Shelf
def Tryz.lays138_ren : Go.Shelf.Ren := ⟨fun | 138 => 56 | 195 => 71 | 218 => 73 | 143 => 57 | 219 => 74 | 217 => 90 | 225 => 91 | 224 => 92 | 267 => 93 | 266 => 106 | 314 => 107 | n => n, fun | 9 => 9 | 3 => 3 | 4 => 4 | 5 => 5 | 0 => 0 | 46 => 114 | 146 => 139 | 51 => 138 | n => n, fun | 1 => 2 | n => n⟩
theorem Tryz.lays138 : Go.Proofs.Lays.n138 Tryz.prog Tryz.lays138_ren := {
  mixed := by kernel_rfl
  f138 := Tryz.func56.trans (congrArg some (by kernel_rfl))
  f143 := Tryz.func57.trans (congrArg some (by kernel_rfl))
  f195 := Tryz.func71.trans (congrArg some (by kernel_rfl))
  f217 := Tryz.func90.trans (congrArg some (by kernel_rfl))
  f218 := Tryz.func73.trans (congrArg some (by kernel_rfl))
  f219 := Tryz.func74.trans (congrArg some (by kernel_rfl))
  f224 := Tryz.func92.trans (congrArg some (by kernel_rfl))
  f225 := Tryz.func91.trans (congrArg some (by kernel_rfl))
  f266 := Tryz.func106.trans (congrArg some (by kernel_rfl))
  f267 := Tryz.func93.trans (congrArg some (by kernel_rfl))
  f314 := Tryz.func107.trans (congrArg some (by kernel_rfl))
  t0 := Tryz.underlying0
  a0 := Tryz.isAgg0
  z0 := Tryz.sizeOf0
  v0 := Tryz.zeroValue0
  t3 := Tryz.underlying3
  a3 := Tryz.isAgg3
  z3 := Tryz.sizeOf3
  v3 := Tryz.zeroValue3
  t4 := Tryz.underlying4
  a4 := Tryz.isAgg4
  z4 := Tryz.sizeOf4
  v4 := Tryz.zeroValue4
  t5 := Tryz.underlying5
  a5 := Tryz.isAgg5
  z5 := Tryz.sizeOf5
  v5 := Tryz.zeroValue5
  t9 := Tryz.underlying9
  a9 := Tryz.isAgg9
  z9 := Tryz.sizeOf9
  v9 := Tryz.zeroValue9
  t46 := Tryz.underlying114
  a46 := Tryz.isAgg114
  z46 := Tryz.sizeOf114
  v46 := Tryz.zeroValue114
  t51 := Tryz.underlying138
  a51 := Tryz.isAgg138
  z51 := Tryz.sizeOf138
  v51 := Tryz.zeroValue138
  t146 := Tryz.underlying139
  a146 := Tryz.isAgg139
  z146 := Tryz.sizeOf139
  v146 := Tryz.zeroValue139
  g1 := by kernel_rfl }
open Go.RowKit Go.Lib in
theorem Tryz.strings_Count_one (s : ByteArray) (c : UInt8) (w : World) :
    Calls Tryz.prog 56 #[.string s, .string ⟨#[c]⟩] w fun e w' => e = .returned (.int .i64 (Lib.countByte s.data.toList c)) ∧ w' = w := Any.strings_Count_one Tryz.lays138 s c w
end Go.Proofs

namespace Go.Proofs.YtimdioacmojkeabGreatDoor
open Go.RowKit
set_option maxRecDepth 4000
open Nn (Name)

namespace Wk
/-- what one node of a directory leaves -/
def rstep (l : List Pk.Bl) (sub : Bs → List Name → List It → List It × Int) (path : List Name) (n : Td.Nd) (w : List It) : List It × Int :=
  if 8 ≤ path.length then ([], 14) else if 100 ≤ w.length then ([], 2) else
  if (if n.kind = 1 then reapFile l n.size n.parts [] else (n.link, 0)).2 ≠ 0 then ([], (if n.kind = 1 then reapFile l n.size n.parts [] else (n.link, 0)).2) else
  if n.kind = 2 then sub (n.parts.headD []) (path ++ [n.name]) (w ++ [item path n (if n.kind = 1 then reapFile l n.size n.parts [] else (n.link, 0)).1]) else (w ++ [item path n (if n.kind = 1 then reapFile l n.size n.parts [] else (n.link, 0)).1], 0)

theorem rnodes_step (l : List Pk.Bl) (sub : Bs → List Name → List It → List It × Int) (path : List Name) (n : Td.Nd) (r : List Td.Nd) (w : List It) :
    reapNodes l sub path (n :: r) w = if (rstep l sub path n w).2 ≠ 0 then ([], (rstep l sub path n w).2) else reapNodes l sub path r (rstep l sub path n w).1 := by
  rw [reapNodes]
  unfold rstep
  by_cases h1 : 8 ≤ path.length
  · rw [if_pos h1, if_pos h1, if_pos (by decide)]
  rw [if_neg h1, if_neg h1]
  by_cases h2 : 100 ≤ w.length
  · rw [if_pos h2, if_pos h2, if_pos (by decide)]
  rw [if_neg h2, if_neg h2]
  dsimp only
  by_cases h3 : (if n.kind = 1 then reapFile l n.size n.parts [] else (n.link, 0)).2 ≠ 0
  · rw [if_pos h3, if_pos h3, if_pos h3]
  rw [if_neg h3, if_neg h3]

end Wk

/-- the reaper in block b: its heap m, what was told -/
structure Rpt (base b m nq : Nat) (bs : List Blb) (w : World) (items : List Im) : Prop where
  ex : ∃ iv, w.heap[b]? = some (.cells #[.map (some m), iv] 71 (0, 0)) ∧ w.ownsRow base 36 5 iv items.length (rowR imC items)
  map : Mp w m nq (mpB bs)
  at_ : base ≤ b
  atm : base ≤ m
  few : items.length ≤ 100

structure Rf (base : Nat) (A B : World) : Prop where
  low : Below base A B
  ko : Ko pR A B

theorem Rf.refl {base : Nat} (A : World) : Rf base A A := ⟨Below.refl _ _, Ko.refl _ _⟩

theorem Rf.trans {base : Nat} {A B C : World} (h : Rf base A B) (k : Rf base B C) : Rf base A C := ⟨h.low.trans k.low, h.ko.trans k.ko⟩

theorem Rf.of_below {base : Nat} {A B : World} (h : Below A.heap.size A B) (hb : base ≤ A.heap.size) : Rf base A B := ⟨h.mono hb, Ko.of_below h⟩

theorem Rf.size {base : Nat} {A B : World} (h : Rf base A B) : A.heap.size ≤ B.heap.size := h.ko.size

theorem Rf.cells {base : Nat} {A B : World} (h : Rf base A B) {k : Nat} {cur : Array Value} {t : TypeId} {fr : Nat × Nat} (ho : A.heap[k]? = some (.cells cur t fr)) (h1 : t ≠ 36) (h2 : t ≠ 71) : B.heap[k]? = some (.cells cur t fr) :=
  h.ko.obj k _ ho ⟨h1, h2⟩

theorem Rpt.below {base b m nq : Nat} {bs : List Blb} {w w' : World} {items : List Im} (h : Rpt base b m nq bs w items) (hb : Below w.heap.size w w') : Rpt base b m nq bs w' items := by
  obtain ⟨⟨iv, p1, p2⟩, hm, ha, hc, hf⟩ := h
  exact ⟨⟨iv, (hb.block b (Array.getElem?_eq_some_iff.1 p1).1).trans p1, own_below p2 hb⟩, hm.below hb, ha, hc, hf⟩

theorem info_itm : (Tryz.prog.info? 36).map (fun i => (i.zero, i.size, i.bytes)) = some (some (.agg #[.string ⟨#[]⟩, .int .i64 0, .int .i64 0, .int .i64 0, .string ⟨#[]⟩]), 5, 56) := by kernel_rfl

theorem itm_at {W : World} {B : Nat} {v0 v1 v2 v3 v4 : Value} (h0 : W.cell? ⟨B, 0, none⟩ = some v0) (h1 : W.cell? ⟨B, 1, none⟩ = some v1) (h2 : W.cell? ⟨B, 2, none⟩ = some v2) (h3 : W.cell? ⟨B, 3, none⟩ = some v3) (h4 : W.cell? ⟨B, 4, none⟩ = some v4) :
    ∀ j u, [v0, v1, v2, v3, v4][j]? = some u → W.cell? ((⟨B, 0, none⟩ : Addr).add j) = some u := by
  intro j u hj
  rw [Addr.add_mid, Nat.zero_add]
  match j, hj with
  | 0, hj => rw [h0]; exact hj
  | 1, hj => rw [h1]; exact hj
  | 2, hj => rw [h2]; exact hj
  | 3, hj => rw [h3]; exact hj
  | 4, hj => rw [h4]; exact hj

theorem set_one {W : World} {M : Nat} {x y : Value} {T : TypeId} {fr : Nat × Nat} (h : W.heap[M]? = some (.cells #[x, y] T fr)) (a : Value) : (W.setCell ⟨M, 1, none⟩ a).heap[M]? = some (.cells #[x, a] T fr) := by
  simp [World.setCell, Array.getElem?_modify, h]

theorem pair_at {w : World} {b : Nat} {T : TypeId} {fr : Nat × Nat} {x0 x1 : Value} (h : w.heap[b]? = some (.cells #[x0, x1] T fr)) : w.cell? ⟨b, 0, none⟩ = some x0 ∧ w.cell? ⟨b, 1, none⟩ = some x1 := by
  constructor <;> simp [World.cell?, h]

/-- what directory of the reaper answers -/
def RDirOk (base b m nq : Nat) (bs : List Blb) (k : Nat) : Prop := ∀ (path : List Name) (id : Wk.Bs) (items : List Im) (w : World), path.length + k = 9 → (∀ s ∈ path, (47 : UInt8) ∉ s ∧ s.length ≤ 1024) → id.length = 8 → Rpt base b m nq bs w items → (∀ W, Below base w W → Tabs W) →
  ∀ R, R = Wk.reapDir (pl bs) k id path (its items) →
  Calls Tryz.prog 27 #[.pointer (some ⟨b, 0, none⟩), idV id, .string (mkB (Nn.tails path))] w fun e w' => e = .returned (.int .i64 R.2) ∧ Rf base w w' ∧ (R.2 = 0 → ∃ items', its items' = R.1 ∧ Rpt base b m nq bs w' items')

/-- what is sure of a node that was read -/
structure Nk (n : Nod) : Prop where
  kind : n.kind = 1 ∨ n.kind = 2 ∨ n.kind = 3
  name : (47 : UInt8) ∉ n.name.data.toList ∧ n.name.data.toList.length ≤ 1024
  size : 0 ≤ n.size ∧ n.size ≤ 4096
  many : n.parts.length ≤ 300
  dir : n.kind = 2 → n.parts.length = 1 ∧ n.link.data.toList = []

set_option maxHeartbeats 4000000 in
set_option maxRecDepth 10000 in
theorem rnode_file (base b m nq : Nat) (bs : List Blb) (hsm : Sm bs) (k : Nat) (_ : 1 ≤ k → RDirOk base b m nq bs k) (path : List Name) (hpk : path.length + (k + 1) = 9) (hps : ∀ s ∈ path, (47 : UInt8) ∉ s ∧ s.length ≤ 1024) (n : Nod) (pv : Value) (hnk : Nk n) (hkd : n.kind = 1) (items : List Im) (w : World)
    (h : Rpt base b m nq bs w items) (hng : NdG w n (ndC n pv)) (hT : ∀ W, Below base w W → Tabs W) (R : List Wk.It × Int) (hR : R = Wk.rstep (pl bs) (Wk.reapDir (pl bs) k) path n.nd (its items)) :
    Calls Tryz.prog 45 #[.pointer (some ⟨b, 0, none⟩), .agg (ndC n pv).toArray, .string (mkB (Nn.tails (path ++ [n.name.data.toList])))] w fun e w' => e = .returned (.int .i64 R.2) ∧ Rf base w w' ∧ (R.2 = 0 → ∃ items', its items' = R.1 ∧ Rpt base b m nq bs w' items') := by
  obtain ⟨i0, hi, hz0, hz1, hz2⟩ := info_parts info_itm
  obtain ⟨PS, hPS⟩ : ∃ PS, PS = mkB (Nn.tails (path ++ [n.name.data.toList])) := ⟨_, rfl⟩
  have hns : ∀ s ∈ path ++ [n.name.data.toList], (47 : UInt8) ∉ s ∧ s.length ≤ 1024 := fun s hs => by
    rcases List.mem_append.1 hs with q | q
    · exact hps s q
    · rw [List.mem_singleton.1 q]; exact hnk.name
  have hcnt : ∀ W, Calls Tryz.prog 56 #[.string PS, .string ⟨#[47]⟩] W fun e w' => e = .returned (.int .i64 ((path.length + 1 : Nat) : Int)) ∧ w' = W := fun W => by
    have := Tryz.strings_Count_one PS 47 W
    have e : Lib.countByte PS.data.toList 47 = path.length + 1 := by
      rw [hPS]
      show (Nn.tails (path ++ [n.name.data.toList])).count 47 = _
      rw [Wk.count_tails _ fun s hs => (hns s hs).1]
      simp
    rw [e] at this
    exact this
  have HItm : Hid (∀ (by_ : ByteArray), (⟨PS, n.kind, n.mode, n.time, by_⟩ : Im).it = Wk.item path n.nd by_.data.toList) := fun by_ => by
    show Wk.It.mk _ _ _ _ _ = Wk.It.mk _ _ _ _ _
    have e : PS.data.toList = Nn.joinB (path ++ [n.nd.name]) := by
      rw [Wk.joinB_tails (by simp), hPS]; rfl
    rw [e]; rfl
  have HPS : Hid (PS = mkB (Nn.tails (path ++ [n.name.data.toList]))) := hPS
  rw [← hPS]
  obtain ⟨⟨iv, p1, p2⟩, hmp, ha, hm, hfew⟩ := h
  have hblt : b < w.heap.size := (Array.getElem?_eq_some_iff.1 p1).1
  have hbase : base ≤ w.heap.size := by omega
  have hcells := pair_at p1
  obtain ⟨ia, ic, rfl⟩ := own_form p2
  have HIl : Hid ((its items).length = items.length) := its_length items
  have HR : Hid (R = Wk.rstep (pl bs) (Wk.reapDir (pl bs) k) path n.nd (its items)) := hR
  have HP1 : Hid (w.heap[b]? = some (.cells #[.map (some m), .slice ia items.length ic] 71 (0, 0))) := p1
  have HP2 : Hid (w.ownsRow base 36 5 (.slice ia items.length ic) items.length (rowR imC items)) := p2
  have HMp : Hid (Mp w m nq (mpB bs)) := hmp
  have HNg : Hid (NdG w n (ndC n pv)) := hng
  have HT : Hid (∀ W, Below base w W → Tabs W) := hT
  have HAt : Hid (base ≤ b ∧ base ≤ m) := ⟨ha, hm⟩
  obtain ⟨pv0, epv, hrx, hty, hno⟩ := hng
  obtain ⟨W1, hW1⟩ : ∃ W1, W1 = w.alloc (.cells (ndC n pv).toArray 80) := ⟨_, rfl⟩
  have hB1 : Below w.heap.size w W1 := by rw [hW1]; exact (Below.refl _ w).alloc (Nat.le_refl _) _
  have HB1 : Hid (Below w.heap.size w W1) := hB1
  have HM : Hid (W1.heap[w.heap.size]? = some (.cells (ndC n pv).toArray 80 (0, 0))) := by rw [hW1]; exact heap_alloc_new w _
  have HS1 : Hid (W1.heap.size = w.heap.size + 1) := by show _ = _; rw [hW1, World.size_alloc]
  have hb1 : W1.heap[b]? = some (.cells #[.map (some m), .slice ia items.length ic] 71 (0, 0)) := (hB1.block b hblt).trans p1
  obtain ⟨c0, c1⟩ := pair_at hb1
  skip
  obtain ⟨name, kind, mode, time, size, parts, link⟩ := n
  dsimp only [ndC] at *
  subst hkd
  obtain ⟨pa, pc, epc, hpc1, hpc2⟩ := hrx.slice
  cases epv
  subst epc
  obtain ⟨n0, n1, n2, n3, n4, n5, n6, nlt⟩ := sev_at HM.out
  have HK : Hid (Nk ⟨name, 1, mode, time, size, parts, link⟩) := hnk
  obtain ⟨PN, hPN⟩ : ∃ PN, PN = parts.length := ⟨_, rfl⟩
  have HPN : Hid (PN = parts.length) := hPN
  obtain ⟨IN, hIN⟩ : ∃ IN, IN = items.length := ⟨_, rfl⟩
  have HIN : Hid (IN = items.length) := hIN
  rw [← hIN] at HP1 c1 hfew hb1
  rw [← hPN] at n5 hW1 HM ⊢
  clear hPS hR hcells p1 hmp hT ha hm hrx hty hno hnk hB1 hPN hIN hpc1 hpc2 hb1
  go_enter Tryz.func45, Tryz.ntmps45
  go_upto_region 1 with fail
  rw [← hW1]
  clear hW1
  go_wp2_with fail
  refine (hcnt _).mono ?_
  rintro e u ⟨rfl, hu⟩
  obtain rfl := hu.symm
  clear hcnt hu
  by_cases hdp : 8 ≤ path.length
  · have HRe : Hid (R = ([], 14)) := by show _ = _; rw [HR.out]; unfold Wk.rstep; rw [if_pos hdp]
    have hgt : ((path.length + 1 : Nat) : Int) > 8 := by omega
    generalize path.length = PL at *
    clear HR
    go_wp2_with fail
    go_ret
    exact ⟨by rw [HRe.out]; rfl, Rf.of_below HB1.out hbase, fun e => by rw [HRe.out] at e; cases e⟩
  have hgt : ¬ ((path.length + 1 : Nat) : Int) > 8 := by omega
  by_cases hfl : IN = 100
  · have HRe : Hid (R = ([], 2)) := by show _ = _; rw [HR.out]; unfold Wk.rstep; rw [if_neg hdp, if_pos (by rw [HIl.out, ← HIN.out, hfl]; exact Nat.le_refl _)]
    generalize path.length = PL at *
    subst hfl
    clear HR
    go_wp2_with fail
    go_ret
    exact ⟨by rw [HRe.out]; rfl, Rf.of_below HB1.out hbase, fun e => by rw [HRe.out] at e; cases e⟩
  have hne1 : (((IN : Nat) : Int) == 100) = false := by rw [beq_eq_false_iff_ne]; omega
  obtain ⟨XI, hXI⟩ : ∃ XI, XI = W1.heap.size := ⟨_, rfl⟩
  have HXI : Hid (XI = w.heap.size + 1) := by show _ = _; rw [hXI]; exact HS1.out
  obtain ⟨W2, hW2⟩ : ∃ W2, W2 = W1.alloc (.cells #[.string PS, .int .i64 1, .int .i64 mode, .int .i64 time, .string ⟨#[]⟩] 36) := ⟨_, rfl⟩
  have hB2 : Below W1.heap.size W1 W2 := by rw [hW2]; exact (Below.refl _ W1).alloc (Nat.le_refl _) _
  have HB2 : Hid (Below w.heap.size w W2) := HB1.out.trans (hB2.mono HB1.out.size)
  have HN2 : Hid (W2.heap[w.heap.size]? = some (.cells #[.string name, .int .i64 1, .int .i64 mode, .int .i64 time, .int .i64 size, .slice pa PN pc, .string link] 80 (0, 0))) := (hB2.block _ (Array.getElem?_eq_some_iff.1 HM.out).1).trans HM.out
  have HIT2 : Hid (W2.heap[W1.heap.size]? = some (.cells #[.string PS, .int .i64 1, .int .i64 mode, .int .i64 time, .string ⟨#[]⟩] 36 (0, 0))) := by rw [hW2]; exact heap_alloc_new W1 _
  obtain ⟨F, hF⟩ : ∃ F, F = Wk.reapFile (pl bs) size parts [] := ⟨_, rfl⟩
  have hng2 : NdG W2 ⟨name, 1, mode, time, size, parts, link⟩ [.string name, .int .i64 1, .int .i64 mode, .int .i64 time, .int .i64 size, .slice pa parts.length pc, .string link] :=
    HNg.out.keep HB2.out.size fun q cur fr ho => (HB2.out.block q (Array.getElem?_eq_some_iff.1 ho).1).trans ho
  obtain ⟨pv9, e9, hr9, _, ho9⟩ := hng2
  cases e9
  have hfile := rfile_any b m nq bs ⟨name, 1, mode, time, size, parts, link⟩ (.slice pa parts.length pc) (.slice ia IN ic) W2 ((HB2.out.block b hblt).trans HP1.out) (HMp.out.below HB2.out) hsm hr9 ho9.ids HK.out.size.1 HK.out.size.2 HK.out.many F hF
  dsimp only [ndC] at hfile
  rw [← HPN.out] at hfile
  have HF : Hid (F = Wk.reapFile (pl bs) size parts []) := hF
  obtain ⟨j0, j1, j2, j3, j4, j5, j6, jlt⟩ := sev_at HN2.out
  obtain ⟨PL, hPL⟩ : ∃ PL, PL = path.length := ⟨_, rfl⟩
  have HPL : Hid (PL = path.length) := hPL
  rw [← hPL] at hgt ⊢
  clear hPL hr9 ho9 hF
  go_wp2_with fail
  go_upto_region 9 with fail
  rw [← hW2]
  clear hW2 n0 n1 n2 n3 n4 n5 n6 nlt c0 c1
  rw [← hXI] at HIT2 ⊢
  clear hXI
  have hfile' : Calls Tryz.prog 62 #[.pointer (some ⟨b, 0, none⟩), .agg #[.string name, .int .i64 1, .int .i64 mode, .int .i64 time, .int .i64 size, .slice pa PN pc, .string link]] W2 fun e w' => e = .returned (.tuple #[.string ⟨F.1.toArray⟩, .int .i64 F.2]) ∧ Below W2.heap.size W2 w' ∧ F.1.length ≤ 4096 := hfile
  obtain ⟨BY, hBY⟩ : ∃ BY : ByteArray, BY = ⟨F.1.toArray⟩ := ⟨_, rfl⟩
  have HBY : Hid (BY = ⟨F.1.toArray⟩) := hBY
  rw [← hBY] at hfile'
  clear hBY hfile
  go_wp2_with fail
  refine hfile'.mono ?_
  rintro e w3 ⟨rfl, b3, _⟩
  have hit3 : w3.heap[XI]? = some (.cells #[.string PS, .int .i64 1, .int .i64 mode, .int .i64 time, .string ⟨#[]⟩] 36 (0, 0)) := (b3.block _ (Array.getElem?_eq_some_iff.1 HIT2.out).1).trans HIT2.out
  have hn3 : w3.heap[w.heap.size]? = some (.cells #[.string name, .int .i64 1, .int .i64 mode, .int .i64 time, .int .i64 size, .slice pa PN pc, .string link] 80 (0, 0)) := (b3.block _ (Array.getElem?_eq_some_iff.1 HN2.out).1).trans HN2.out
  have HB3 : Hid (Below w.heap.size w w3) := HB2.out.trans (b3.mono HB2.out.size)
  obtain ⟨k0, k1, k2, k3, k4, klt⟩ := five_at hit3
  have kf := free_at hit3 4
  obtain ⟨WX, hWX⟩ : ∃ WX, WX = w3.setCell ⟨XI, 4, none⟩ (.string BY) := ⟨_, rfl⟩
  have HBX : Hid (Below w.heap.size w WX) := by
    have hx := HXI.out
    rw [hWX]; exact HB3.out.setCell (by show w.heap.size ≤ XI; omega) _
  have HNX : Hid (WX.heap[w.heap.size]? = some (.cells #[.string name, .int .i64 1, .int .i64 mode, .int .i64 time, .int .i64 size, .slice pa PN pc, .string link] 80 (0, 0))) := by
    have hx := HXI.out
    show _ = _
    rw [hWX, Below.heap_setCell _ _ _ _ (by show w.heap.size ≠ XI; omega)]; exact hn3
  have HITX : Hid (WX.heap[XI]? = some (.cells #[.string PS, .int .i64 1, .int .i64 mode, .int .i64 time, .string BY] 36 (0, 0))) := by
    show _ = _
    rw [hWX]
    simpa using set_at hit3 4 (.string BY)
  obtain ⟨j0, j1, j2, j3, j4, j5, j6, jlt⟩ := sev_at HNX.out
  clear hfile' b3 hit3 hn3
  by_cases hE : F.2 = 0
  case neg =>
    have HRe : Hid (R = ([], F.2)) := by
      show _ = _
      rw [HR.out]
      unfold Wk.rstep
      rw [if_neg hdp, if_neg (by rw [HIl.out, ← HIN.out]; omega)]
      have e : (if (Nod.nd ⟨name, 1, mode, time, size, parts, link⟩).kind = 1 then Wk.reapFile (pl bs) (Nod.nd ⟨name, 1, mode, time, size, parts, link⟩).size (Nod.nd ⟨name, 1, mode, time, size, parts, link⟩).parts [] else ((Nod.nd ⟨name, 1, mode, time, size, parts, link⟩).link, 0)) = F := by rw [HF.out]; rfl
      rw [e, if_pos hE]
    obtain ⟨ER, hER⟩ : ∃ ER, F.2 = ER := ⟨_, rfl⟩
    have hne : (ER != 0) = true := by rw [← hER, bne_iff_ne]; exact hE
    have HE : Hid (ER ≠ 0) := by show _ ≠ _; rw [← hER]; exact hE
    rw [hER] at HRe ⊢
    clear hER hE HR
    go_wp2_with fail
    rw [← hWX]
    go_ret
    exact ⟨by rw [HRe.out]; rfl, Rf.of_below HBX.out hbase, fun e => by rw [HRe.out] at e; exact absurd e HE.out⟩
  rw [hE]
  go_upto_region 14 with fail
  rw [← hWX]
  clear hWX k0 k1 k2 k3 k4 kf klt
  have hp2X : WX.ownsRow base 36 5 (.slice ia IN ic) IN (rowR imC items) := by rw [HIN.out]; exact own_below HP2.out HBX.out
  have HP2X : Hid (WX.ownsRow base 36 5 (.slice ia IN ic) IN (rowR imC items)) := hp2X
  have HP1X : Hid (WX.heap[b]? = some (.cells #[.map (some m), .slice ia IN ic] 71 (0, 0))) := (HBX.out.block b hblt).trans HP1.out
  obtain ⟨u0, u1, u2, u3, u4, ult⟩ := five_at HITX.out
  obtain ⟨c0, c1⟩ := pair_at HP1X.out
  have HObl : Hid (∀ g, (Value.slice ia IN ic).ownBlock = some g → g ≠ b ∧ g < WX.heap.size ∧ base ≤ g ∧ g ≠ m ∧ ∃ cur, WX.heap[g]? = some (.cells cur 36 (0, 0))) := fun g hg => by
    obtain ⟨cur, hc, h2, h3⟩ := own_block HP2X.out hg
    refine ⟨fun e => ?_, h3, h2, fun e => ?_, cur, hc⟩
    · subst e; rw [HP1X.out] at hc; cases hc
    · subst e
      obtain ⟨es, ck, hk⟩ := (HMp.out.below HBX.out).isMap
      rw [hk] at hc
      cases hc
  have hrow : ∀ o2, ((WX.alloc o2).drew).ownsRow base 36 5 (.slice ia IN ic) IN (rowR imC items) := fun o2 => (hp2X.alloc o2).drew
  have HQ : Hid (∀ o2 w1, ((WX.alloc o2).drew).grownBy w1 (Value.slice ia IN ic).ownBlock → w1.heap[b]? = some (.cells #[.map (some m), .slice ia IN ic] 71 (0, 0)) ∧ Kept (fun k => (Value.slice ia IN ic).ownBlock ≠ some k) WX w1) := by
    intro o2 w1 hg
    have hk : Kept (fun k => (Value.slice ia IN ic).ownBlock ≠ some k) WX w1 := Kept.grown ((Kept.refl _ WX).alloc o2).drew hg fun k hk hp => hp hk
    exact ⟨hk.obj (fun e => (HObl.out _ e).1 rfl) HP1X.out, hk⟩
  have hbX : b < WX.heap.size := (Array.getElem?_eq_some_iff.1 HP1X.out).1
  have hbw : base ≤ WX.heap.size := Nat.le_trans hbase HBX.out.size
  go_cut [] from 45 (fun wx => Hid (∃ g cap, wx.ownsRow base 36 5 (.slice (some ⟨g, 0, none⟩) (IN + 1) cap) (IN + 1) (rowR imC items ++ [.string PS, .int .i64 1, .int .i64 mode, .int .i64 time, .string BY]) ∧
    wx.heap[b]? = some (.cells #[.map (some m), .slice (some ⟨g, 0, none⟩) (IN + 1) cap] 71 (0, 0)) ∧ Kept (fun k => k ≠ b ∧ (Value.slice ia IN ic).ownBlock ≠ some k) WX wx))
  case first =>
    go_region_law ((refine step_append_lies _ (by rfl) (.tmp 49) (.tmp 51) 26 (by rfl) base 36 i0 (.agg #[.string ⟨#[]⟩, .int .i64 0, .int .i64 0, .int .i64 0, .string ⟨#[]⟩]) 5 56 Tryz.underlying26 hi hz0 hz1 hz2 rfl (by decide) (.slice ia IN ic) IN (rowR imC items) (by rfl) (hrow _) ⟨WX.heap.size, 0, none⟩ 1 1 [.string PS, .int .i64 1, .int .i64 mode, .int .i64 time, .string BY] (by rfl) (by rfl) (itm_at (by simp) (by simp) (by simp) (by simp) (by simp)) (by simp [Value.oneCell']) (by decide) (by unfold maxLen; omega) (by omega) (by simp; omega) (WX.heap.size + 1) (by simp) ?_; intro g cap w1 hown1 hgrow hat hlt; obtain ⟨q1, q2⟩ := HQ.out _ _ hgrow; obtain ⟨z0, z1⟩ := pair_at q1; have zf := free_at q1 1))
    all_goals
      go_wp2_with fail
      go_meet
      have hgb : g ≠ b := fun e => by
        rcases hat with h | h
        · exact (HObl.out g h).1 e
        · omega
      exact ⟨g, cap, own_kept hown1 ((Kept.refl _ w1).setCell (p := fun k => k ≠ b) (by simp) _) (fun g' hg' e => hgb (by cases hg'; exact e)), set_one q1 _, (q2.mono fun _ h => h.2).setCell (fun h => h.1 rfl) _⟩
  case rest =>
  obtain ⟨g, cap, hown, hbc, hk⟩ := hcut.out
  have HK9 : Hid (Kept (fun k => k ≠ b ∧ (Value.slice ia IN ic).ownBlock ≠ some k) WX wc) := hk
  have HRf : Hid (Rf base w wc) := by
    refine ⟨(HBX.out.mono hbase).trans (hk.below hbw fun j hj => ⟨by have := HAt.out.1; omega, fun e => by have := (HObl.out j e).2.2.1; omega⟩), (Ko.of_below HBX.out).trans (Ko.of_kept hk fun j o ho hp => ⟨fun e => ?_, fun e => ?_⟩)⟩
    · subst e
      rw [HP1X.out] at ho
      cases ho
      exact hp.2 rfl
    · obtain ⟨cur, hc⟩ := (HObl.out j e).2.2.2.2
      rw [hc] at ho
      cases ho
      exact hp.1 rfl
  have HRp : Hid (Rpt base b m nq bs wc (items ++ [⟨PS, 1, mode, time, BY⟩])) := by
    refine ⟨⟨_, hbc, ?_⟩, (HMp.out.below HBX.out).obj fun es ck ho => (hk.block m ((HMp.out.below HBX.out).lt) ⟨fun e => ?_, fun e => (HObl.out m e).2.2.2.1 rfl⟩).trans ho, HAt.out.1, HAt.out.2, by rw [List.length_append, ← HIN.out]; simp; omega⟩
    · rw [List.length_append, ← HIN.out, rowR_more]
      exact hown
    · subst e
      rw [HP1X.out] at ho
      cases ho
  have HItx : Hid (its (items ++ [⟨PS, 1, mode, time, BY⟩]) = its items ++ [Wk.item path (Nod.nd ⟨name, 1, mode, time, size, parts, link⟩) BY.data.toList]) := by
    show _ = _
    rw [← HItm.out BY]
    simp [its]
  have hn9 : wc.heap[w.heap.size]? = some (.cells #[.string name, .int .i64 1, .int .i64 mode, .int .i64 time, .int .i64 size, .slice pa PN pc, .string link] 80 (0, 0)) := by
    have h1 := HNX.out
    have h2 := hk.block w.heap.size (Array.getElem?_eq_some_iff.1 h1).1 ⟨fun e => by omega, fun e => by
      obtain ⟨cur, hc⟩ := (HObl.out _ e).2.2.2.2
      rw [h1] at hc
      cases hc⟩
    exact h2.trans h1
  obtain ⟨n0, n1, n2, n3, n4, n5, n6, nlt⟩ := sev_at hn9
  clear hown hbc hk hcut HQ hrow u0 u1 u2 u3 u4 c0 c1 hp2X hn9
  have HRe : Hid (R = (its items ++ [Wk.item path (Nod.nd ⟨name, 1, mode, time, size, parts, link⟩) BY.data.toList], 0)) := by
    show _ = _
    rw [HR.out, HBY.out]
    unfold Wk.rstep
    rw [if_neg hdp, if_neg (by rw [HIl.out, ← HIN.out]; omega)]
    have e : (if (Nod.nd ⟨name, 1, mode, time, size, parts, link⟩).kind = 1 then Wk.reapFile (pl bs) (Nod.nd ⟨name, 1, mode, time, size, parts, link⟩).size (Nod.nd ⟨name, 1, mode, time, size, parts, link⟩).parts [] else ((Nod.nd ⟨name, 1, mode, time, size, parts, link⟩).link, 0)) = F := by rw [HF.out]; rfl
    rw [e, if_neg (fun q => q hE), if_neg (by show ¬ (1 : Int) = 2; decide)]
  clear HR
  go_wp2_with fail
  go_ret
  exact ⟨by rw [HRe.out]; rfl, HRf.out, fun _ => ⟨_, by rw [HItx.out, HRe.out], HRp.out⟩⟩

set_option maxHeartbeats 4000000 in
set_option maxRecDepth 10000 in
theorem rnode_dir (base b m nq : Nat) (bs : List Blb) (_ : Sm bs) (k : Nat) (hd : 1 ≤ k → RDirOk base b m nq bs k) (path : List Name) (hpk : path.length + (k + 1) = 9) (hps : ∀ s ∈ path, (47 : UInt8) ∉ s ∧ s.length ≤ 1024) (n : Nod) (pv : Value) (hnk : Nk n) (hkd : n.kind = 2) (items : List Im) (w : World)
    (h : Rpt base b m nq bs w items) (hng : NdG w n (ndC n pv)) (hT : ∀ W, Below base w W → Tabs W) (R : List Wk.It × Int) (hR : R = Wk.rstep (pl bs) (Wk.reapDir (pl bs) k) path n.nd (its items)) :
    Calls Tryz.prog 45 #[.pointer (some ⟨b, 0, none⟩), .agg (ndC n pv).toArray, .string (mkB (Nn.tails (path ++ [n.name.data.toList])))] w fun e w' => e = .returned (.int .i64 R.2) ∧ Rf base w w' ∧ (R.2 = 0 → ∃ items', its items' = R.1 ∧ Rpt base b m nq bs w' items') := by
  obtain ⟨i0, hi, hz0, hz1, hz2⟩ := info_parts info_itm
  obtain ⟨PS, hPS⟩ : ∃ PS, PS = mkB (Nn.tails (path ++ [n.name.data.toList])) := ⟨_, rfl⟩
  have hns : ∀ s ∈ path ++ [n.name.data.toList], (47 : UInt8) ∉ s ∧ s.length ≤ 1024 := fun s hs => by
    rcases List.mem_append.1 hs with q | q
    · exact hps s q
    · rw [List.mem_singleton.1 q]; exact hnk.name
  have hcnt : ∀ W, Calls Tryz.prog 56 #[.string PS, .string ⟨#[47]⟩] W fun e w' => e = .returned (.int .i64 ((path.length + 1 : Nat) : Int)) ∧ w' = W := fun W => by
    have := Tryz.strings_Count_one PS 47 W
    have e : Lib.countByte PS.data.toList 47 = path.length + 1 := by
      rw [hPS]
      show (Nn.tails (path ++ [n.name.data.toList])).count 47 = _
      rw [Wk.count_tails _ fun s hs => (hns s hs).1]
      simp
    rw [e] at this
    exact this
  have HItm : Hid (∀ (by_ : ByteArray), (⟨PS, n.kind, n.mode, n.time, by_⟩ : Im).it = Wk.item path n.nd by_.data.toList) := fun by_ => by
    show Wk.It.mk _ _ _ _ _ = Wk.It.mk _ _ _ _ _
    have e : PS.data.toList = Nn.joinB (path ++ [n.nd.name]) := by
      rw [Wk.joinB_tails (by simp), hPS]; rfl
    rw [e]; rfl
  have HPS : Hid (PS = mkB (Nn.tails (path ++ [n.name.data.toList]))) := hPS
  rw [← hPS]
  obtain ⟨⟨iv, p1, p2⟩, hmp, ha, hm, hfew⟩ := h
  have hblt : b < w.heap.size := (Array.getElem?_eq_some_iff.1 p1).1
  have hbase : base ≤ w.heap.size := by omega
  have hcells := pair_at p1
  obtain ⟨ia, ic, rfl⟩ := own_form p2
  have HIl : Hid ((its items).length = items.length) := its_length items
  have HR : Hid (R = Wk.rstep (pl bs) (Wk.reapDir (pl bs) k) path n.nd (its items)) := hR
  have HP1 : Hid (w.heap[b]? = some (.cells #[.map (some m), .slice ia items.length ic] 71 (0, 0))) := p1
  have HP2 : Hid (w.ownsRow base 36 5 (.slice ia items.length ic) items.length (rowR imC items)) := p2
  have HMp : Hid (Mp w m nq (mpB bs)) := hmp
  have HNg : Hid (NdG w n (ndC n pv)) := hng
  have HT : Hid (∀ W, Below base w W → Tabs W) := hT
  have HAt : Hid (base ≤ b ∧ base ≤ m) := ⟨ha, hm⟩
  obtain ⟨pv0, epv, hrx, hty, hno⟩ := hng
  obtain ⟨W1, hW1⟩ : ∃ W1, W1 = w.alloc (.cells (ndC n pv).toArray 80) := ⟨_, rfl⟩
  have hB1 : Below w.heap.size w W1 := by rw [hW1]; exact (Below.refl _ w).alloc (Nat.le_refl _) _
  have HB1 : Hid (Below w.heap.size w W1) := hB1
  have HM : Hid (W1.heap[w.heap.size]? = some (.cells (ndC n pv).toArray 80 (0, 0))) := by rw [hW1]; exact heap_alloc_new w _
  have HS1 : Hid (W1.heap.size = w.heap.size + 1) := by show _ = _; rw [hW1, World.size_alloc]
  have hb1 : W1.heap[b]? = some (.cells #[.map (some m), .slice ia items.length ic] 71 (0, 0)) := (hB1.block b hblt).trans p1
  obtain ⟨c0, c1⟩ := pair_at hb1
  skip
  obtain ⟨name, kind, mode, time, size, parts, link⟩ := n
  dsimp only [ndC] at *
  subst hkd
  obtain ⟨pa, pc, epc, hpc1, hpc2⟩ := hrx.slice
  cases epv
  subst epc
  obtain ⟨n0, n1, n2, n3, n4, n5, n6, nlt⟩ := sev_at HM.out
  have HK : Hid (Nk ⟨name, 2, mode, time, size, parts, link⟩) := hnk
  obtain ⟨PN, hPN⟩ : ∃ PN, PN = parts.length := ⟨_, rfl⟩
  have HPN : Hid (PN = parts.length) := hPN
  obtain ⟨IN, hIN⟩ : ∃ IN, IN = items.length := ⟨_, rfl⟩
  have HIN : Hid (IN = items.length) := hIN
  rw [← hIN] at HP1 c1 hfew hb1
  rw [← hPN] at n5 hW1 HM ⊢
  clear hPS hR hcells p1 hmp hT ha hm hrx hty hno hnk hB1 hPN hIN hpc1 hpc2 hb1
  go_enter Tryz.func45, Tryz.ntmps45
  go_upto_region 1 with fail
  rw [← hW1]
  clear hW1
  go_wp2_with fail
  refine (hcnt _).mono ?_
  rintro e u ⟨rfl, hu⟩
  obtain rfl := hu.symm
  clear hcnt hu
  by_cases hdp : 8 ≤ path.length
  · have HRe : Hid (R = ([], 14)) := by show _ = _; rw [HR.out]; unfold Wk.rstep; rw [if_pos hdp]
    have hgt : ((path.length + 1 : Nat) : Int) > 8 := by omega
    generalize path.length = PL at *
    clear HR
    go_wp2_with fail
    go_ret
    exact ⟨by rw [HRe.out]; rfl, Rf.of_below HB1.out hbase, fun e => by rw [HRe.out] at e; cases e⟩
  have hgt : ¬ ((path.length + 1 : Nat) : Int) > 8 := by omega
  by_cases hfl : IN = 100
  · have HRe : Hid (R = ([], 2)) := by show _ = _; rw [HR.out]; unfold Wk.rstep; rw [if_neg hdp, if_pos (by rw [HIl.out, ← HIN.out, hfl]; exact Nat.le_refl _)]
    generalize path.length = PL at *
    subst hfl
    clear HR
    go_wp2_with fail
    go_ret
    exact ⟨by rw [HRe.out]; rfl, Rf.of_below HB1.out hbase, fun e => by rw [HRe.out] at e; cases e⟩
  have hne1 : (((IN : Nat) : Int) == 100) = false := by rw [beq_eq_false_iff_ne]; omega
  obtain ⟨XI, hXI⟩ : ∃ XI, XI = W1.heap.size := ⟨_, rfl⟩
  have HXI : Hid (XI = w.heap.size + 1) := by show _ = _; rw [hXI]; exact HS1.out
  obtain ⟨WX, hWX⟩ : ∃ WX, WX = W1.alloc (.cells #[.string PS, .int .i64 2, .int .i64 mode, .int .i64 time, .string ⟨#[]⟩] 36) := ⟨_, rfl⟩
  have hBX : Below W1.heap.size W1 WX := by rw [hWX]; exact (Below.refl _ W1).alloc (Nat.le_refl _) _
  have HBX : Hid (Below w.heap.size w WX) := HB1.out.trans (hBX.mono HB1.out.size)
  have HNX : Hid (WX.heap[w.heap.size]? = some (.cells #[.string name, .int .i64 2, .int .i64 mode, .int .i64 time, .int .i64 size, .slice pa PN pc, .string link] 80 (0, 0))) := (hBX.block _ (Array.getElem?_eq_some_iff.1 HM.out).1).trans HM.out
  have hitX : WX.heap[W1.heap.size]? = some (.cells #[.string PS, .int .i64 2, .int .i64 mode, .int .i64 time, .string ⟨#[]⟩] 36 (0, 0)) := by rw [hWX]; exact heap_alloc_new W1 _
  obtain ⟨PL, hPL⟩ : ∃ PL, PL = path.length := ⟨_, rfl⟩
  have HPL : Hid (PL = path.length) := hPL
  rw [← hPL] at hgt ⊢
  clear hPL
  go_wp2_with fail
  go_upto_region 14 with fail
  rw [← hWX]
  clear hWX hBX n0 n1 n2 n3 n4 n5 n6 nlt c0 c1
  rw [← hXI] at hitX ⊢
  clear hXI
  obtain ⟨BY, hBY⟩ : ∃ BY : ByteArray, BY = ⟨#[]⟩ := ⟨_, rfl⟩
  have HBY : Hid (BY = ⟨#[]⟩) := hBY
  rw [← hBY] at hitX
  clear hBY
  have HITX : Hid (WX.heap[XI]? = some (.cells #[.string PS, .int .i64 2, .int .i64 mode, .int .i64 time, .string BY] 36 (0, 0))) := hitX
  clear hitX
  have hp2X : WX.ownsRow base 36 5 (.slice ia IN ic) IN (rowR imC items) := by rw [HIN.out]; exact own_below HP2.out HBX.out
  have HP2X : Hid (WX.ownsRow base 36 5 (.slice ia IN ic) IN (rowR imC items)) := hp2X
  have HP1X : Hid (WX.heap[b]? = some (.cells #[.map (some m), .slice ia IN ic] 71 (0, 0))) := (HBX.out.block b hblt).trans HP1.out
  obtain ⟨u0, u1, u2, u3, u4, ult⟩ := five_at HITX.out
  obtain ⟨c0, c1⟩ := pair_at HP1X.out
  have HObl : Hid (∀ g, (Value.slice ia IN ic).ownBlock = some g → g ≠ b ∧ g < WX.heap.size ∧ base ≤ g ∧ g ≠ m ∧ ∃ cur, WX.heap[g]? = some (.cells cur 36 (0, 0))) := fun g hg => by
    obtain ⟨cur, hc, h2, h3⟩ := own_block HP2X.out hg
    refine ⟨fun e => ?_, h3, h2, fun e => ?_, cur, hc⟩
    · subst e; rw [HP1X.out] at hc; cases hc
    · subst e
      obtain ⟨es, ck, hk⟩ := (HMp.out.below HBX.out).isMap
      rw [hk] at hc
      cases hc
  have hrow : ∀ o2, ((WX.alloc o2).drew).ownsRow base 36 5 (.slice ia IN ic) IN (rowR imC items) := fun o2 => (hp2X.alloc o2).drew
  have HQ : Hid (∀ o2 w1, ((WX.alloc o2).drew).grownBy w1 (Value.slice ia IN ic).ownBlock → w1.heap[b]? = some (.cells #[.map (some m), .slice ia IN ic] 71 (0, 0)) ∧ Kept (fun k => (Value.slice ia IN ic).ownBlock ≠ some k) WX w1) := by
    intro o2 w1 hg
    have hk : Kept (fun k => (Value.slice ia IN ic).ownBlock ≠ some k) WX w1 := Kept.grown ((Kept.refl _ WX).alloc o2).drew hg fun k hk hp => hp hk
    exact ⟨hk.obj (fun e => (HObl.out _ e).1 rfl) HP1X.out, hk⟩
  have hbX : b < WX.heap.size := (Array.getElem?_eq_some_iff.1 HP1X.out).1
  have hbw : base ≤ WX.heap.size := Nat.le_trans hbase HBX.out.size
  go_cut [] from 45 (fun wx => Hid (∃ g cap, wx.ownsRow base 36 5 (.slice (some ⟨g, 0, none⟩) (IN + 1) cap) (IN + 1) (rowR imC items ++ [.string PS, .int .i64 2, .int .i64 mode, .int .i64 time, .string BY]) ∧
    wx.heap[b]? = some (.cells #[.map (some m), .slice (some ⟨g, 0, none⟩) (IN + 1) cap] 71 (0, 0)) ∧ Kept (fun k => k ≠ b ∧ (Value.slice ia IN ic).ownBlock ≠ some k) WX wx))
  case first =>
    go_region_law ((refine step_append_lies _ (by rfl) (.tmp 49) (.tmp 51) 26 (by rfl) base 36 i0 (.agg #[.string ⟨#[]⟩, .int .i64 0, .int .i64 0, .int .i64 0, .string ⟨#[]⟩]) 5 56 Tryz.underlying26 hi hz0 hz1 hz2 rfl (by decide) (.slice ia IN ic) IN (rowR imC items) (by rfl) (hrow _) ⟨WX.heap.size, 0, none⟩ 1 1 [.string PS, .int .i64 2, .int .i64 mode, .int .i64 time, .string BY] (by rfl) (by rfl) (itm_at (by simp) (by simp) (by simp) (by simp) (by simp)) (by simp [Value.oneCell']) (by decide) (by unfold maxLen; omega) (by omega) (by simp; omega) (WX.heap.size + 1) (by simp) ?_; intro g cap w1 hown1 hgrow hat hlt; obtain ⟨q1, q2⟩ := HQ.out _ _ hgrow; obtain ⟨z0, z1⟩ := pair_at q1; have zf := free_at q1 1))
    all_goals
      go_wp2_with fail
      go_meet
      have hgb : g ≠ b := fun e => by
        rcases hat with h | h
        · exact (HObl.out g h).1 e
        · omega
      exact ⟨g, cap, own_kept hown1 ((Kept.refl _ w1).setCell (p := fun k => k ≠ b) (by simp) _) (fun g' hg' e => hgb (by cases hg'; exact e)), set_one q1 _, (q2.mono fun _ h => h.2).setCell (fun h => h.1 rfl) _⟩
  case rest =>
  obtain ⟨g, cap, hown, hbc, hk⟩ := hcut.out
  have HK9 : Hid (Kept (fun k => k ≠ b ∧ (Value.slice ia IN ic).ownBlock ≠ some k) WX wc) := hk
  have HRf : Hid (Rf base w wc) := by
    refine ⟨(HBX.out.mono hbase).trans (hk.below hbw fun j hj => ⟨by have := HAt.out.1; omega, fun e => by have := (HObl.out j e).2.2.1; omega⟩), (Ko.of_below HBX.out).trans (Ko.of_kept hk fun j o ho hp => ⟨fun e => ?_, fun e => ?_⟩)⟩
    · subst e
      rw [HP1X.out] at ho
      cases ho
      exact hp.2 rfl
    · obtain ⟨cur, hc⟩ := (HObl.out j e).2.2.2.2
      rw [hc] at ho
      cases ho
      exact hp.1 rfl
  have HRp : Hid (Rpt base b m nq bs wc (items ++ [⟨PS, 2, mode, time, BY⟩])) := by
    refine ⟨⟨_, hbc, ?_⟩, (HMp.out.below HBX.out).obj fun es ck ho => (hk.block m ((HMp.out.below HBX.out).lt) ⟨fun e => ?_, fun e => (HObl.out m e).2.2.2.1 rfl⟩).trans ho, HAt.out.1, HAt.out.2, by rw [List.length_append, ← HIN.out]; simp; omega⟩
    · rw [List.length_append, ← HIN.out, rowR_more]
      exact hown
    · subst e
      rw [HP1X.out] at ho
      cases ho
  have HItx : Hid (its (items ++ [⟨PS, 2, mode, time, BY⟩]) = its items ++ [Wk.item path (Nod.nd ⟨name, 2, mode, time, size, parts, link⟩) BY.data.toList]) := by
    show _ = _
    rw [← HItm.out BY]
    simp [its]
  have hn9 : wc.heap[w.heap.size]? = some (.cells #[.string name, .int .i64 2, .int .i64 mode, .int .i64 time, .int .i64 size, .slice pa PN pc, .string link] 80 (0, 0)) := by
    have h1 := HNX.out
    have h2 := hk.block w.heap.size (Array.getElem?_eq_some_iff.1 h1).1 ⟨fun e => by omega, fun e => by
      obtain ⟨cur, hc⟩ := (HObl.out _ e).2.2.2.2
      rw [h1] at hc
      cases hc⟩
    exact h2.trans h1
  obtain ⟨n0, n1, n2, n3, n4, n5, n6, nlt⟩ := sev_at hn9
  clear hown hbc hk hcut HQ hrow u0 u1 u2 u3 u4 c0 c1 hp2X hn9
  have hp1 : parts.length = 1 := (HK.out.dir rfl).1
  have hlk : link.data.toList = [] := (HK.out.dir rfl).2
  obtain ⟨idp, rfl⟩ : ∃ idp, parts = [idp] := by
    match parts, hp1 with
    | [x], _ => exact ⟨x, rfl⟩
  have HRe : Hid (R = Wk.reapDir (pl bs) k idp (path ++ [name.data.toList]) (its items ++ [Wk.item path (Nod.nd ⟨name, 2, mode, time, size, [idp], link⟩) BY.data.toList])) := by
    show _ = _
    rw [HR.out, HBY.out]
    unfold Wk.rstep
    rw [if_neg hdp, if_neg (by rw [HIl.out, ← HIN.out]; omega)]
    have e : (if (Nod.nd ⟨name, 2, mode, time, size, [idp], link⟩).kind = 1 then Wk.reapFile (pl bs) (Nod.nd ⟨name, 2, mode, time, size, [idp], link⟩).size (Nod.nd ⟨name, 2, mode, time, size, [idp], link⟩).parts [] else ((Nod.nd ⟨name, 2, mode, time, size, [idp], link⟩).link, 0)) = ([], 0) := by
      rw [if_neg (by show ¬ (2 : Int) = 1; decide)]
      exact Prod.ext hlk rfl
    rw [e, if_neg (fun q => q rfl), if_pos (show (Nod.nd ⟨name, 2, mode, time, size, [idp], link⟩).kind = 2 from rfl)]
    rfl
  have hng9 : NdG wc ⟨name, 2, mode, time, size, [idp], link⟩ [.string name, .int .i64 2, .int .i64 mode, .int .i64 time, .int .i64 size, .slice pa [idp].length pc, .string link] :=
    HNg.out.keep (Nat.le_trans HBX.out.size HK9.out.size) fun q cur fr ho => by
      have h1 := (HBX.out.block q (Array.getElem?_eq_some_iff.1 ho).1).trans ho
      exact (HK9.out.block q (Array.getElem?_eq_some_iff.1 h1).1 ⟨fun e => (by subst e; rw [HP1X.out] at h1; cases h1), fun e => by
        obtain ⟨cur', hc⟩ := (HObl.out _ e).2.2.2.2
        rw [h1] at hc
        cases hc⟩).trans h1
  obtain ⟨pv9, e9, hr9, _, ho9⟩ := hng9
  cases e9
  have hid8 := ho9.ids idp List.mem_cons_self
  obtain ⟨kb, ko, rfl, hkb, hcell⟩ := hr9.get 0 idp rfl
  have hpnn : PN = 1 := HPN.out
  subst hpnn
  have hdir := hd (by omega) (path ++ [name.data.toList]) idp _ wc (by rw [List.length_append]; simp; omega) (fun s hs => by
    rcases List.mem_append.1 hs with q | q
    · exact hps s q
    · rw [List.mem_singleton.1 q]; exact HK.out.name) hid8 HRp.out (fun W hW => HT.out W (HRf.out.low.trans hW)) R (by rw [HRe.out, HItx.out])
  rw [← HPS.out] at hdir
  obtain ⟨b0, b1, b2, b3, b4, b5, b6, b7, rfl⟩ := eight idp hid8
  obtain ⟨x0, x1, x2, x3, x4, x5, x6, x7⟩ : wc.cell? ⟨kb, ko, none⟩ = some (.int .u8 (b0.toNat : Int)) ∧ wc.cell? ⟨kb, ko + 1, none⟩ = some (.int .u8 (b1.toNat : Int)) ∧ wc.cell? ⟨kb, ko + 2, none⟩ = some (.int .u8 (b2.toNat : Int)) ∧ wc.cell? ⟨kb, ko + 3, none⟩ = some (.int .u8 (b3.toNat : Int)) ∧
      wc.cell? ⟨kb, ko + 4, none⟩ = some (.int .u8 (b4.toNat : Int)) ∧ wc.cell? ⟨kb, ko + 5, none⟩ = some (.int .u8 (b5.toNat : Int)) ∧ wc.cell? ⟨kb, ko + 6, none⟩ = some (.int .u8 (b6.toNat : Int)) ∧ wc.cell? ⟨kb, ko + 7, none⟩ = some (.int .u8 (b7.toNat : Int)) := by
    have q := fun r u hu => hcell r u hu
    simp only [Nat.zero_mul, Nat.add_zero] at q
    exact ⟨q 0 _ rfl, q 1 _ rfl, q 2 _ rfl, q 3 _ rfl, q 4 _ rfl, q 5 _ rfl, q 6 _ rfl, q 7 _ rfl⟩
  have hdir' : Calls Tryz.prog 27 #[.pointer (some ⟨b, 0, none⟩), .agg #[.int .u8 (b0.toNat : Int), .int .u8 (b1.toNat : Int), .int .u8 (b2.toNat : Int), .int .u8 (b3.toNat : Int), .int .u8 (b4.toNat : Int), .int .u8 (b5.toNat : Int), .int .u8 (b6.toNat : Int), .int .u8 (b7.toNat : Int)], .string PS] wc fun e w' => e = .returned (.int .i64 R.2) ∧ Rf base wc w' ∧ (R.2 = 0 → ∃ items', its items' = R.1 ∧ Rpt base b m nq bs w' items') := hdir
  clear hdir hr9 ho9 hcell hid8 hp1 hd HR
  go_wp2_with fail
  refine hdir'.mono ?_
  rintro e w9 ⟨rfl, f9, hz⟩
  have HZ : Hid (Rf base w w9 ∧ (R.2 = 0 → ∃ items', its items' = R.1 ∧ Rpt base b m nq bs w9 items')) := ⟨HRf.out.trans f9, hz⟩
  clear hdir' f9 hz x0 x1 x2 x3 x4 x5 x6 x7
  go_wp2_with fail
  go_ret
  exact ⟨rfl, HZ.out.1, HZ.out.2⟩

set_option maxHeartbeats 4000000 in
set_option maxRecDepth 10000 in
theorem rnode_link (base b m nq : Nat) (bs : List Blb) (_ : Sm bs) (k : Nat) (_ : 1 ≤ k → RDirOk base b m nq bs k) (path : List Name) (hpk : path.length + (k + 1) = 9) (hps : ∀ s ∈ path, (47 : UInt8) ∉ s ∧ s.length ≤ 1024) (n : Nod) (pv : Value) (hnk : Nk n) (hkd : n.kind = 3) (items : List Im) (w : World)
    (h : Rpt base b m nq bs w items) (hng : NdG w n (ndC n pv)) (hT : ∀ W, Below base w W → Tabs W) (R : List Wk.It × Int) (hR : R = Wk.rstep (pl bs) (Wk.reapDir (pl bs) k) path n.nd (its items)) :
    Calls Tryz.prog 45 #[.pointer (some ⟨b, 0, none⟩), .agg (ndC n pv).toArray, .string (mkB (Nn.tails (path ++ [n.name.data.toList])))] w fun e w' => e = .returned (.int .i64 R.2) ∧ Rf base w w' ∧ (R.2 = 0 → ∃ items', its items' = R.1 ∧ Rpt base b m nq bs w' items') := by
  obtain ⟨i0, hi, hz0, hz1, hz2⟩ := info_parts info_itm
  obtain ⟨PS, hPS⟩ : ∃ PS, PS = mkB (Nn.tails (path ++ [n.name.data.toList])) := ⟨_, rfl⟩
  have hns : ∀ s ∈ path ++ [n.name.data.toList], (47 : UInt8) ∉ s ∧ s.length ≤ 1024 := fun s hs => by
    rcases List.mem_append.1 hs with q | q
    · exact hps s q
    · rw [List.mem_singleton.1 q]; exact hnk.name
  have hcnt : ∀ W, Calls Tryz.prog 56 #[.string PS, .string ⟨#[47]⟩] W fun e w' => e = .returned (.int .i64 ((path.length + 1 : Nat) : Int)) ∧ w' = W := fun W => by
    have := Tryz.strings_Count_one PS 47 W
    have e : Lib.countByte PS.data.toList 47 = path.length + 1 := by
      rw [hPS]
      show (Nn.tails (path ++ [n.name.data.toList])).count 47 = _
      rw [Wk.count_tails _ fun s hs => (hns s hs).1]
      simp
    rw [e] at this
    exact this
  have HItm : Hid (∀ (by_ : ByteArray), (⟨PS, n.kind, n.mode, n.time, by_⟩ : Im).it = Wk.item path n.nd by_.data.toList) := fun by_ => by
    show Wk.It.mk _ _ _ _ _ = Wk.It.mk _ _ _ _ _
    have e : PS.data.toList = Nn.joinB (path ++ [n.nd.name]) := by
      rw [Wk.joinB_tails (by simp), hPS]; rfl
    rw [e]; rfl
  have HPS : Hid (PS = mkB (Nn.tails (path ++ [n.name.data.toList]))) := hPS
  rw [← hPS]
  obtain ⟨⟨iv, p1, p2⟩, hmp, ha, hm, hfew⟩ := h
  have hblt : b < w.heap.size := (Array.getElem?_eq_some_iff.1 p1).1
  have hbase : base ≤ w.heap.size := by omega
  have hcells := pair_at p1
  obtain ⟨ia, ic, rfl⟩ := own_form p2
  have HIl : Hid ((its items).length = items.length) := its_length items
  have HR : Hid (R = Wk.rstep (pl bs) (Wk.reapDir (pl bs) k) path n.nd (its items)) := hR
  have HP1 : Hid (w.heap[b]? = some (.cells #[.map (some m), .slice ia items.length ic] 71 (0, 0))) := p1
  have HP2 : Hid (w.ownsRow base 36 5 (.slice ia items.length ic) items.length (rowR imC items)) := p2
  have HMp : Hid (Mp w m nq (mpB bs)) := hmp
  have HNg : Hid (NdG w n (ndC n pv)) := hng
  have HT : Hid (∀ W, Below base w W → Tabs W) := hT
  have HAt : Hid (base ≤ b ∧ base ≤ m) := ⟨ha, hm⟩
  obtain ⟨pv0, epv, hrx, hty, hno⟩ := hng
  obtain ⟨W1, hW1⟩ : ∃ W1, W1 = w.alloc (.cells (ndC n pv).toArray 80) := ⟨_, rfl⟩
  have hB1 : Below w.heap.size w W1 := by rw [hW1]; exact (Below.refl _ w).alloc (Nat.le_refl _) _
  have HB1 : Hid (Below w.heap.size w W1) := hB1
  have HM : Hid (W1.heap[w.heap.size]? = some (.cells (ndC n pv).toArray 80 (0, 0))) := by rw [hW1]; exact heap_alloc_new w _
  have HS1 : Hid (W1.heap.size = w.heap.size + 1) := by show _ = _; rw [hW1, World.size_alloc]
  have hb1 : W1.heap[b]? = some (.cells #[.map (some m), .slice ia items.length ic] 71 (0, 0)) := (hB1.block b hblt).trans p1
  obtain ⟨c0, c1⟩ := pair_at hb1
  skip
  obtain ⟨name, kind, mode, time, size, parts, link⟩ := n
  dsimp only [ndC] at *
  subst hkd
  obtain ⟨pa, pc, epc, hpc1, hpc2⟩ := hrx.slice
  cases epv
  subst epc
  obtain ⟨n0, n1, n2, n3, n4, n5, n6, nlt⟩ := sev_at HM.out
  have HK : Hid (Nk ⟨name, 3, mode, time, size, parts, link⟩) := hnk
  obtain ⟨PN, hPN⟩ : ∃ PN, PN = parts.length := ⟨_, rfl⟩
  have HPN : Hid (PN = parts.length) := hPN
  obtain ⟨IN, hIN⟩ : ∃ IN, IN = items.length := ⟨_, rfl⟩
  have HIN : Hid (IN = items.length) := hIN
  rw [← hIN] at HP1 c1 hfew hb1
  rw [← hPN] at n5 hW1 HM ⊢
  clear hPS hR hcells p1 hmp hT ha hm hrx hty hno hnk hB1 hPN hIN hpc1 hpc2 hb1
  go_enter Tryz.func45, Tryz.ntmps45
  go_upto_region 1 with fail
  rw [← hW1]
  clear hW1
  go_wp2_with fail
  refine (hcnt _).mono ?_
  rintro e u ⟨rfl, hu⟩
  obtain rfl := hu.symm
  clear hcnt hu
  by_cases hdp : 8 ≤ path.length
  · have HRe : Hid (R = ([], 14)) := by show _ = _; rw [HR.out]; unfold Wk.rstep; rw [if_pos hdp]
    have hgt : ((path.length + 1 : Nat) : Int) > 8 := by omega
    generalize path.length = PL at *
    clear HR
    go_wp2_with fail
    go_ret
    exact ⟨by rw [HRe.out]; rfl, Rf.of_below HB1.out hbase, fun e => by rw [HRe.out] at e; cases e⟩
  have hgt : ¬ ((path.length + 1 : Nat) : Int) > 8 := by omega
  by_cases hfl : IN = 100
  · have HRe : Hid (R = ([], 2)) := by show _ = _; rw [HR.out]; unfold Wk.rstep; rw [if_neg hdp, if_pos (by rw [HIl.out, ← HIN.out, hfl]; exact Nat.le_refl _)]
    generalize path.length = PL at *
    subst hfl
    clear HR
    go_wp2_with fail
    go_ret
    exact ⟨by rw [HRe.out]; rfl, Rf.of_below HB1.out hbase, fun e => by rw [HRe.out] at e; cases e⟩
  have hne1 : (((IN : Nat) : Int) == 100) = false := by rw [beq_eq_false_iff_ne]; omega
  obtain ⟨XI, hXI⟩ : ∃ XI, XI = W1.heap.size := ⟨_, rfl⟩
  have HXI : Hid (XI = w.heap.size + 1) := by show _ = _; rw [hXI]; exact HS1.out
  obtain ⟨WX, hWX⟩ : ∃ WX, WX = W1.alloc (.cells #[.string PS, .int .i64 3, .int .i64 mode, .int .i64 time, .string link] 36) := ⟨_, rfl⟩
  have hBX : Below W1.heap.size W1 WX := by rw [hWX]; exact (Below.refl _ W1).alloc (Nat.le_refl _) _
  have HBX : Hid (Below w.heap.size w WX) := HB1.out.trans (hBX.mono HB1.out.size)
  have HNX : Hid (WX.heap[w.heap.size]? = some (.cells #[.string name, .int .i64 3, .int .i64 mode, .int .i64 time, .int .i64 size, .slice pa PN pc, .string link] 80 (0, 0))) := (hBX.block _ (Array.getElem?_eq_some_iff.1 HM.out).1).trans HM.out
  have hitX : WX.heap[W1.heap.size]? = some (.cells #[.string PS, .int .i64 3, .int .i64 mode, .int .i64 time, .string link] 36 (0, 0)) := by rw [hWX]; exact heap_alloc_new W1 _
  obtain ⟨PL, hPL⟩ : ∃ PL, PL = path.length := ⟨_, rfl⟩
  have HPL : Hid (PL = path.length) := hPL
  rw [← hPL] at hgt ⊢
  clear hPL
  go_wp2_with fail
  go_upto_region 14 with fail
  rw [← hWX]
  clear hWX hBX n0 n1 n2 n3 n4 n5 n6 nlt c0 c1
  rw [← hXI] at hitX ⊢
  clear hXI
  obtain ⟨BY, hBY⟩ : ∃ BY : ByteArray, BY = link := ⟨_, rfl⟩
  have HBY : Hid (BY = link) := hBY
  rw [← hBY] at hitX
  clear hBY
  have HITX : Hid (WX.heap[XI]? = some (.cells #[.string PS, .int .i64 3, .int .i64 mode, .int .i64 time, .string BY] 36 (0, 0))) := hitX
  clear hitX
  have hp2X : WX.ownsRow base 36 5 (.slice ia IN ic) IN (rowR imC items) := by rw [HIN.out]; exact own_below HP2.out HBX.out
  have HP2X : Hid (WX.ownsRow base 36 5 (.slice ia IN ic) IN (rowR imC items)) := hp2X
  have HP1X : Hid (WX.heap[b]? = some (.cells #[.map (some m), .slice ia IN ic] 71 (0, 0))) := (HBX.out.block b hblt).trans HP1.out
  obtain ⟨u0, u1, u2, u3, u4, ult⟩ := five_at HITX.out
  obtain ⟨c0, c1⟩ := pair_at HP1X.out
  have HObl : Hid (∀ g, (Value.slice ia IN ic).ownBlock = some g → g ≠ b ∧ g < WX.heap.size ∧ base ≤ g ∧ g ≠ m ∧ ∃ cur, WX.heap[g]? = some (.cells cur 36 (0, 0))) := fun g hg => by
    obtain ⟨cur, hc, h2, h3⟩ := own_block HP2X.out hg
    refine ⟨fun e => ?_, h3, h2, fun e => ?_, cur, hc⟩
    · subst e; rw [HP1X.out] at hc; cases hc
    · subst e
      obtain ⟨es, ck, hk⟩ := (HMp.out.below HBX.out).isMap
      rw [hk] at hc
      cases hc
  have hrow : ∀ o2, ((WX.alloc o2).drew).ownsRow base 36 5 (.slice ia IN ic) IN (rowR imC items) := fun o2 => (hp2X.alloc o2).drew
  have HQ : Hid (∀ o2 w1, ((WX.alloc o2).drew).grownBy w1 (Value.slice ia IN ic).ownBlock → w1.heap[b]? = some (.cells #[.map (some m), .slice ia IN ic] 71 (0, 0)) ∧ Kept (fun k => (Value.slice ia IN ic).ownBlock ≠ some k) WX w1) := by
    intro o2 w1 hg
    have hk : Kept (fun k => (Value.slice ia IN ic).ownBlock ≠ some k) WX w1 := Kept.grown ((Kept.refl _ WX).alloc o2).drew hg fun k hk hp => hp hk
    exact ⟨hk.obj (fun e => (HObl.out _ e).1 rfl) HP1X.out, hk⟩
  have hbX : b < WX.heap.size := (Array.getElem?_eq_some_iff.1 HP1X.out).1
  have hbw : base ≤ WX.heap.size := Nat.le_trans hbase HBX.out.size
  go_cut [] from 45 (fun wx => Hid (∃ g cap, wx.ownsRow base 36 5 (.slice (some ⟨g, 0, none⟩) (IN + 1) cap) (IN + 1) (rowR imC items ++ [.string PS, .int .i64 3, .int .i64 mode, .int .i64 time, .string BY]) ∧
    wx.heap[b]? = some (.cells #[.map (some m), .slice (some ⟨g, 0, none⟩) (IN + 1) cap] 71 (0, 0)) ∧ Kept (fun k => k ≠ b ∧ (Value.slice ia IN ic).ownBlock ≠ some k) WX wx))
  case first =>
    go_region_law ((refine step_append_lies _ (by rfl) (.tmp 49) (.tmp 51) 26 (by rfl) base 36 i0 (.agg #[.string ⟨#[]⟩, .int .i64 0, .int .i64 0, .int .i64 0, .string ⟨#[]⟩]) 5 56 Tryz.underlying26 hi hz0 hz1 hz2 rfl (by decide) (.slice ia IN ic) IN (rowR imC items) (by rfl) (hrow _) ⟨WX.heap.size, 0, none⟩ 1 1 [.string PS, .int .i64 3, .int .i64 mode, .int .i64 time, .string BY] (by rfl) (by rfl) (itm_at (by simp) (by simp) (by simp) (by simp) (by simp)) (by simp [Value.oneCell']) (by decide) (by unfold maxLen; omega) (by omega) (by simp; omega) (WX.heap.size + 1) (by simp) ?_; intro g cap w1 hown1 hgrow hat hlt; obtain ⟨q1, q2⟩ := HQ.out _ _ hgrow; obtain ⟨z0, z1⟩ := pair_at q1; have zf := free_at q1 1))
    all_goals
      go_wp2_with fail
      go_meet
      have hgb : g ≠ b := fun e => by
        rcases hat with h | h
        · exact (HObl.out g h).1 e
        · omega
      exact ⟨g, cap, own_kept hown1 ((Kept.refl _ w1).setCell (p := fun k => k ≠ b) (by simp) _) (fun g' hg' e => hgb (by cases hg'; exact e)), set_one q1 _, (q2.mono fun _ h => h.2).setCell (fun h => h.1 rfl) _⟩
  case rest =>
  obtain ⟨g, cap, hown, hbc, hk⟩ := hcut.out
  have HK9 : Hid (Kept (fun k => k ≠ b ∧ (Value.slice ia IN ic).ownBlock ≠ some k) WX wc) := hk
  have HRf : Hid (Rf base w wc) := by
    refine ⟨(HBX.out.mono hbase).trans (hk.below hbw fun j hj => ⟨by have := HAt.out.1; omega, fun e => by have := (HObl.out j e).2.2.1; omega⟩), (Ko.of_below HBX.out).trans (Ko.of_kept hk fun j o ho hp => ⟨fun e => ?_, fun e => ?_⟩)⟩
    · subst e
      rw [HP1X.out] at ho
      cases ho
      exact hp.2 rfl
    · obtain ⟨cur, hc⟩ := (HObl.out j e).2.2.2.2
      rw [hc] at ho
      cases ho
      exact hp.1 rfl
  have HRp : Hid (Rpt base b m nq bs wc (items ++ [⟨PS, 3, mode, time, BY⟩])) := by
    refine ⟨⟨_, hbc, ?_⟩, (HMp.out.below HBX.out).obj fun es ck ho => (hk.block m ((HMp.out.below HBX.out).lt) ⟨fun e => ?_, fun e => (HObl.out m e).2.2.2.1 rfl⟩).trans ho, HAt.out.1, HAt.out.2, by rw [List.length_append, ← HIN.out]; simp; omega⟩
    · rw [List.length_append, ← HIN.out, rowR_more]
      exact hown
    · subst e
      rw [HP1X.out] at ho
      cases ho
  have HItx : Hid (its (items ++ [⟨PS, 3, mode, time, BY⟩]) = its items ++ [Wk.item path (Nod.nd ⟨name, 3, mode, time, size, parts, link⟩) BY.data.toList]) := by
    show _ = _
    rw [← HItm.out BY]
    simp [its]
  have hn9 : wc.heap[w.heap.size]? = some (.cells #[.string name, .int .i64 3, .int .i64 mode, .int .i64 time, .int .i64 size, .slice pa PN pc, .string link] 80 (0, 0)) := by
    have h1 := HNX.out
    have h2 := hk.block w.heap.size (Array.getElem?_eq_some_iff.1 h1).1 ⟨fun e => by omega, fun e => by
      obtain ⟨cur, hc⟩ := (HObl.out _ e).2.2.2.2
      rw [h1] at hc
      cases hc⟩
    exact h2.trans h1
  obtain ⟨n0, n1, n2, n3, n4, n5, n6, nlt⟩ := sev_at hn9
  clear hown hbc hk hcut HQ hrow u0 u1 u2 u3 u4 c0 c1 hp2X hn9
  have HRe : Hid (R = (its items ++ [Wk.item path (Nod.nd ⟨name, 3, mode, time, size, parts, link⟩) BY.data.toList], 0)) := by
    show _ = _
    rw [HR.out, HBY.out]
    unfold Wk.rstep
    rw [if_neg hdp, if_neg (by rw [HIl.out, ← HIN.out]; omega)]
    rfl
  clear HR
  go_wp2_with fail
  go_ret
  exact ⟨by rw [HRe.out]; rfl, HRf.out, fun _ => ⟨_, by rw [HItx.out, HRe.out], HRp.out⟩⟩

end Go.Proofs.YtimdioacmojkeabGreatDoor

namespace Go.Proofs.YtimdioacmojkeabGreatDoor
open Go.RowKit
set_option maxRecDepth 4000
open Nn (Name)

theorem rnode_any (base b m nq : Nat) (bs : List Blb) (hsm : Sm bs) (k : Nat) (hd : 1 ≤ k → RDirOk base b m nq bs k) (path : List Name) (hpk : path.length + (k + 1) = 9) (hps : ∀ s ∈ path, (47 : UInt8) ∉ s ∧ s.length ≤ 1024) (n : Nod) (pv : Value) (hnk : Nk n) (items : List Im) (w : World)
    (h : Rpt base b m nq bs w items) (hng : NdG w n (ndC n pv)) (hT : ∀ W, Below base w W → Tabs W) (R : List Wk.It × Int) (hR : R = Wk.rstep (pl bs) (Wk.reapDir (pl bs) k) path n.nd (its items)) :
    Calls Tryz.prog 45 #[.pointer (some ⟨b, 0, none⟩), .agg (ndC n pv).toArray, .string (mkB (Nn.tails (path ++ [n.name.data.toList])))] w fun e w' => e = .returned (.int .i64 R.2) ∧ Rf base w w' ∧ (R.2 = 0 → ∃ items', its items' = R.1 ∧ Rpt base b m nq bs w' items') := by
  rcases hnk.kind with e | e | e
  · exact rnode_file base b m nq bs hsm k hd path hpk hps n pv hnk e items w h hng hT R hR
  · exact rnode_dir base b m nq bs hsm k hd path hpk hps n pv hnk e items w h hng hT R hR
  · exact rnode_link base b m nq bs hsm k hd path hpk hps n pv hnk e items w h hng hT R hR

theorem nk_of {l : List Nod} (h : Td.check (nds l) = 0) {n : Nod} (hn : n ∈ l) : Nk n := by
  have hc := (Td.check_ok h).2 n.nd (List.mem_map_of_mem hn)
  obtain ⟨q1, _, _, q4, q5, q6, q7, q8, _⟩ := Td.nErr_ok hc
  have q7 : 1 ≤ n.kind := q7
  have q8 : n.kind ≤ 3 := q8
  refine ⟨by omega, ⟨(Nn.nm_ok q1).2.2.2, Nat.le_trans (Nn.nm_long q1) (by omega)⟩, ⟨q4, q5⟩, q6, fun e => ?_⟩
  have e' : n.nd.kind = 2 := e
  unfold Td.nErr at hc
  split at hc
  · rename_i z; exact absurd hc z
  split at hc
  · cases hc
  split at hc
  · cases hc
  split at hc
  · cases hc
  rename_i z
  by_cases h1 : n.parts.length = 1
  · by_cases h2 : n.link.data.toList = []
    · exact ⟨h1, h2⟩
    · exact absurd (.inr (.inr (.inl ⟨e', .inr h2⟩))) z
  · exact absurd (.inr (.inr (.inl ⟨e', .inl h1⟩))) z

set_option maxHeartbeats 4000000 in
set_option maxRecDepth 10000 in
theorem rdir_step (base b m nq : Nat) (bs : List Blb) (hsm : Sm bs) (k : Nat) (ih : 1 ≤ k → RDirOk base b m nq bs k) : RDirOk base b m nq bs (k + 1) := by
  intro path id items w hpk hps hid h hT R hR
  obtain ⟨b0, b1, b2, b3, b4, b5, b6, b7, rfl⟩ := eight id hid
  have eV : idV [b0, b1, b2, b3, b4, b5, b6, b7] = .agg #[.int .u8 (b0.toNat : Int), .int .u8 (b1.toNat : Int), .int .u8 (b2.toNat : Int), .int .u8 (b3.toNat : Int), .int .u8 (b4.toNat : Int), .int .u8 (b5.toNat : Int), .int .u8 (b6.toNat : Int), .int .u8 (b7.toNat : Int)] := rfl
  rw [eV]
  obtain ⟨⟨iv, p1, p2⟩, hmp, ha, hm, hfew⟩ := h
  have hblt : b < w.heap.size := (Array.getElem?_eq_some_iff.1 p1).1
  have hbase : base ≤ w.heap.size := by omega
  have HRp : Hid (Rpt base b m nq bs w items) := ⟨⟨iv, p1, p2⟩, hmp, ha, hm, hfew⟩
  have HT : Hid (∀ W, Below base w W → Tabs W) := hT
  obtain ⟨WA, hWA⟩ : ∃ WA, WA = w.alloc (.cells #[.int .u8 (b0.toNat : Int), .int .u8 (b1.toNat : Int), .int .u8 (b2.toNat : Int), .int .u8 (b3.toNat : Int), .int .u8 (b4.toNat : Int), .int .u8 (b5.toNat : Int), .int .u8 (b6.toNat : Int), .int .u8 (b7.toNat : Int)] 30) := ⟨_, rfl⟩
  have hbA : Below w.heap.size w WA := by rw [hWA]; exact (Below.refl _ w).alloc (Nat.le_refl _) _
  have HBA : Hid (Below w.heap.size w WA) := hbA
  have hIA : WA.heap[w.heap.size]? = some (.cells #[.int .u8 (b0.toNat : Int), .int .u8 (b1.toNat : Int), .int .u8 (b2.toNat : Int), .int .u8 (b3.toNat : Int), .int .u8 (b4.toNat : Int), .int .u8 (b5.toNat : Int), .int .u8 (b6.toNat : Int), .int .u8 (b7.toNat : Int)] 30 (0, 0)) := by rw [hWA]; exact heap_alloc_new w _
  have HcI : Hid (∀ W, Gw WA W → W.cell? ⟨w.heap.size, 0, none⟩ = some (.int .u8 (b0.toNat : Int)) ∧ W.cell? ⟨w.heap.size, 1, none⟩ = some (.int .u8 (b1.toNat : Int)) ∧ W.cell? ⟨w.heap.size, 2, none⟩ = some (.int .u8 (b2.toNat : Int)) ∧ W.cell? ⟨w.heap.size, 3, none⟩ = some (.int .u8 (b3.toNat : Int)) ∧ W.cell? ⟨w.heap.size, 4, none⟩ = some (.int .u8 (b4.toNat : Int)) ∧ W.cell? ⟨w.heap.size, 5, none⟩ = some (.int .u8 (b5.toNat : Int)) ∧ W.cell? ⟨w.heap.size, 6, none⟩ = some (.int .u8 (b6.toNat : Int)) ∧ W.cell? ⟨w.heap.size, 7, none⟩ = some (.int .u8 (b7.toNat : Int))) := fun W hW =>
    (I8.laid ((Below.block hW _ (Array.getElem?_eq_some_iff.1 hIA).1).trans hIA)).cells
  have HcB : Hid (∀ W, Gw WA W → W.cell? ⟨b, 0, none⟩ = some (.map (some m))) := fun W hW => by
    have h1 := (HBA.out.block _ hblt).trans p1
    have h2 := (Below.block hW _ (Array.getElem?_eq_some_iff.1 h1).1).trans h1
    exact (pair_at h2).1
  have hget : ∀ W, Gw WA W → Calls Tryz.prog 43 #[.map (some m), .agg #[.int .u8 (b0.toNat : Int), .int .u8 (b1.toNat : Int), .int .u8 (b2.toNat : Int), .int .u8 (b3.toNat : Int), .int .u8 (b4.toNat : Int), .int .u8 (b5.toNat : Int), .int .u8 (b6.toNat : Int), .int .u8 (b7.toNat : Int)], .int .i64 2] W fun e w' => e = .returned (.tuple #[.string ⟨(Wk.blobOf (pl bs) [b0, b1, b2, b3, b4, b5, b6, b7] 2).1.toArray⟩, .int .i64 (Wk.blobOf (pl bs) [b0, b1, b2, b3, b4, b5, b6, b7] 2).2]) ∧ Below W.heap.size W w' :=
    fun W hW => hget_any m nq bs [b0, b1, b2, b3, b4, b5, b6, b7] rfl 2 W ((hmp.below HBA.out).below hW)
  have hgl := blobOf_small hsm [b0, b1, b2, b3, b4, b5, b6, b7] 2
  have HRd : Hid (R = if (Wk.blobOf (pl bs) [b0, b1, b2, b3, b4, b5, b6, b7] 2).2 ≠ 0 then ([], (Wk.blobOf (pl bs) [b0, b1, b2, b3, b4, b5, b6, b7] 2).2) else if (Td.read (Wk.blobOf (pl bs) [b0, b1, b2, b3, b4, b5, b6, b7] 2).1).2 ≠ 0 then ([], (Td.read (Wk.blobOf (pl bs) [b0, b1, b2, b3, b4, b5, b6, b7] 2).1).2) else Wk.reapNodes (pl bs) (Wk.reapDir (pl bs) k) path (Td.read (Wk.blobOf (pl bs) [b0, b1, b2, b3, b4, b5, b6, b7] 2).1).1 (its items)) := hR
  rcases hG : Wk.blobOf (pl bs) [b0, b1, b2, b3, b4, b5, b6, b7] 2 with ⟨gs, GE⟩
  rw [hG] at hget HRd hgl
  dsimp only at hget HRd hgl
  obtain ⟨GS, hGS⟩ : ∃ GS : ByteArray, GS = ⟨gs.toArray⟩ := ⟨_, rfl⟩
  have hGd : gs = GS.data.toList := by rw [hGS]
  rw [← hGS] at hget
  rw [hGd] at HRd
  have hgsz : GS.size ≤ 4096 := by rw [Lib.size_eq, ← hGd]; exact hgl
  obtain ⟨PT, hPT⟩ : ∃ PT, PT = mkB (Nn.tails path) := ⟨_, rfl⟩
  have HPT : Hid (PT = mkB (Nn.tails path)) := hPT
  rw [← hPT]
  have Hmisc : Hid (path.length + (k + 1) = 9 ∧ (∀ s ∈ path, (47 : UInt8) ∉ s ∧ s.length ≤ 1024)) := ⟨hpk, hps⟩
  have HPl : Hid (PT.size ≤ 100000) := by
    show _ ≤ _
    rw [hPT, mkB, Lib.size_eq]
    have ht : ∀ l : List Name, (∀ s ∈ l, s.length ≤ 1024) → (Nn.tails l).length ≤ l.length * 1025 := fun l => by
      induction l with
      | nil => simp [Nn.tails]
      | cons s l ih =>
        intro hl
        have h1 := hl s List.mem_cons_self
        have h2 := ih fun t ht => hl t (List.mem_cons_of_mem _ ht)
        have e : Nn.tails (s :: l) = 47 :: (s ++ Nn.tails l) := rfl
        rw [e, List.length_cons, List.length_append, List.length_cons]
        omega
    have := ht path fun s hs => (hps s hs).2
    simp
    omega
  clear hR eV hmp p2 hT hG hGS hGd hgl hbA hIA hid hPT hps hpk hm ha hfew p1
  go_enter Tryz.func27, Tryz.ntmps27
  go_upto_region 1 with fail
  rw [← hWA]
  clear hWA
  by_cases hE : GE = 0
  case neg =>
    have HRe : Hid (R = ([], GE)) := by show _ = _; rw [HRd.out, if_pos hE]
    have hne : (GE != 0) = true := by rw [bne_iff_ne]; exact hE
    have HE : Hid (GE ≠ 0) := hE
    clear HRd hE
    refine wp_region_rel (G := Gw) (W0 := WA) Gw.refl Gw.trans (by kernel_rfl) (by kernel_rfl) (by kernel_rfl) (Below.refl _ WA).drew ?_
    refine .inl ⟨.pointer (some ⟨b, 0, none⟩), fun v W hW hd => step_run rfl _ W (by clear hd; go_simp) rfl (Gw.refl _), ?_⟩
    simp only [Act.put, List.setIfInBounds_toArray, List.set_cons_zero, List.set_cons_succ]
    refine .inl ⟨.pointer (some ⟨b, 0, none⟩), fun v W hW hd => step_run rfl _ W (by clear hd; go_simp) rfl (Gw.refl _), ?_⟩
    simp only [Act.put, List.setIfInBounds_toArray, List.set_cons_zero, List.set_cons_succ]
    refine .inl ⟨.pointer (some ⟨b, 0, none⟩), fun v W hW hd => step_run rfl _ W (by clear hd; go_simp) rfl (Gw.refl _), ?_⟩
    simp only [Act.put, List.setIfInBounds_toArray, List.set_cons_zero, List.set_cons_succ]
    refine .inl ⟨.map (some m), fun v W hW hd => step_run rfl _ W (by clear hd; have ce := HcB.out W hW; go_simp) rfl (Gw.refl _), ?_⟩
    simp only [Act.put, List.setIfInBounds_toArray, List.set_cons_zero, List.set_cons_succ]
    refine .inl ⟨.agg #[.int .u8 (b0.toNat : Int), .int .u8 (b1.toNat : Int), .int .u8 (b2.toNat : Int), .int .u8 (b3.toNat : Int), .int .u8 (b4.toNat : Int), .int .u8 (b5.toNat : Int), .int .u8 (b6.toNat : Int), .int .u8 (b7.toNat : Int)], fun v W hW hd => step_run rfl _ W (by clear hd; obtain ⟨c0, c1, c2, c3, c4, c5, c6, c7⟩ := HcI.out W hW; go_simp) rfl (Gw.refl _), ?_⟩
    simp only [Act.put, List.setIfInBounds_toArray, List.set_cons_zero, List.set_cons_succ]
    refine .inl ⟨.tuple #[.string GS, .int .i64 GE], fun v W hW hd => step_call rfl 43 #[.map (some m), .agg #[.int .u8 (b0.toNat : Int), .int .u8 (b1.toNat : Int), .int .u8 (b2.toNat : Int), .int .u8 (b3.toNat : Int), .int .u8 (b4.toNat : Int), .int .u8 (b5.toNat : Int), .int .u8 (b6.toNat : Int), .int .u8 (b7.toNat : Int)], .int .i64 2] (by clear hd; go_simp) ((hget W hW).mono fun e w' h => ⟨_, h.1, rfl, h.2⟩), ?_⟩
    simp only [Act.put, List.setIfInBounds_toArray, List.set_cons_zero, List.set_cons_succ]
    refine .inl ⟨.tuple #[.string GS, .int .i64 GE], fun v W hW hd => step_run rfl _ W (by clear hd; go_simp) rfl (Gw.refl _), ?_⟩
    simp only [Act.put, List.setIfInBounds_toArray, List.set_cons_zero, List.set_cons_succ]
    refine .inl ⟨.string GS, fun v W hW hd => step_run rfl _ W (by clear hd; go_simp) rfl (Gw.refl _), ?_⟩
    simp only [Act.put, List.setIfInBounds_toArray, List.set_cons_zero, List.set_cons_succ]
    refine .inl ⟨.int .i64 GE, fun v W hW hd => step_run rfl _ W (by clear hd; go_simp) rfl (Gw.refl _), ?_⟩
    simp only [Act.put, List.setIfInBounds_toArray, List.set_cons_zero, List.set_cons_succ]
    refine .inl ⟨.string GS, fun v W hW hd => step_run rfl _ W (by clear hd; go_simp) rfl (Gw.refl _), ?_⟩
    simp only [Act.put, List.setIfInBounds_toArray, List.set_cons_zero, List.set_cons_succ]
    refine .inl ⟨.int .i64 GE, fun v W hW hd => step_run rfl _ W (by clear hd; go_simp) rfl (Gw.refl _), ?_⟩
    simp only [Act.put, List.setIfInBounds_toArray, List.set_cons_zero, List.set_cons_succ]
    intro v w3 hW3 hV
    clear hV
    have HB3 : Hid (Below w.heap.size w w3) := HBA.out.trans (Below.mono hW3 HBA.out.size)
    clear hget HcI HcB hW3
    go_wp2_with fail
    go_ret
    exact ⟨by rw [HRe.out]; rfl, Rf.of_below HB3.out hbase, fun e => by rw [HRe.out] at e; exact absurd e HE.out⟩
  have HRd2 : Hid (R = if (Td.read GS.data.toList).2 ≠ 0 then ([], (Td.read GS.data.toList).2) else Wk.reapNodes (pl bs) (Wk.reapDir (pl bs) k) path (Td.read GS.data.toList).1 (its items)) := by show _ = _; rw [HRd.out, if_neg (fun q => q hE)]
  subst hE
  clear HRd
  refine wp_region_rel (G := Gw) (W0 := WA) Gw.refl Gw.trans (by kernel_rfl) (by kernel_rfl) (by kernel_rfl) (Below.refl _ WA).drew ?_
  refine .inl ⟨.pointer (some ⟨b, 0, none⟩), fun v W hW hd => step_run rfl _ W (by clear hd; go_simp) rfl (Gw.refl _), ?_⟩
  simp only [Act.put, List.setIfInBounds_toArray, List.set_cons_zero, List.set_cons_succ]
  refine .inl ⟨.pointer (some ⟨b, 0, none⟩), fun v W hW hd => step_run rfl _ W (by clear hd; go_simp) rfl (Gw.refl _), ?_⟩
  simp only [Act.put, List.setIfInBounds_toArray, List.set_cons_zero, List.set_cons_succ]
  refine .inl ⟨.pointer (some ⟨b, 0, none⟩), fun v W hW hd => step_run rfl _ W (by clear hd; go_simp) rfl (Gw.refl _), ?_⟩
  simp only [Act.put, List.setIfInBounds_toArray, List.set_cons_zero, List.set_cons_succ]
  refine .inl ⟨.map (some m), fun v W hW hd => step_run rfl _ W (by clear hd; have ce := HcB.out W hW; go_simp) rfl (Gw.refl _), ?_⟩
  simp only [Act.put, List.setIfInBounds_toArray, List.set_cons_zero, List.set_cons_succ]
  refine .inl ⟨.agg #[.int .u8 (b0.toNat : Int), .int .u8 (b1.toNat : Int), .int .u8 (b2.toNat : Int), .int .u8 (b3.toNat : Int), .int .u8 (b4.toNat : Int), .int .u8 (b5.toNat : Int), .int .u8 (b6.toNat : Int), .int .u8 (b7.toNat : Int)], fun v W hW hd => step_run rfl _ W (by clear hd; obtain ⟨c0, c1, c2, c3, c4, c5, c6, c7⟩ := HcI.out W hW; go_simp) rfl (Gw.refl _), ?_⟩
  simp only [Act.put, List.setIfInBounds_toArray, List.set_cons_zero, List.set_cons_succ]
  refine .inl ⟨.tuple #[.string GS, .int .i64 0], fun v W hW hd => step_call rfl 43 #[.map (some m), .agg #[.int .u8 (b0.toNat : Int), .int .u8 (b1.toNat : Int), .int .u8 (b2.toNat : Int), .int .u8 (b3.toNat : Int), .int .u8 (b4.toNat : Int), .int .u8 (b5.toNat : Int), .int .u8 (b6.toNat : Int), .int .u8 (b7.toNat : Int)], .int .i64 2] (by clear hd; go_simp) ((hget W hW).mono fun e w' h => ⟨_, h.1, rfl, h.2⟩), ?_⟩
  simp only [Act.put, List.setIfInBounds_toArray, List.set_cons_zero, List.set_cons_succ]
  refine .inl ⟨.tuple #[.string GS, .int .i64 0], fun v W hW hd => step_run rfl _ W (by clear hd; go_simp) rfl (Gw.refl _), ?_⟩
  simp only [Act.put, List.setIfInBounds_toArray, List.set_cons_zero, List.set_cons_succ]
  refine .inl ⟨.string GS, fun v W hW hd => step_run rfl _ W (by clear hd; go_simp) rfl (Gw.refl _), ?_⟩
  simp only [Act.put, List.setIfInBounds_toArray, List.set_cons_zero, List.set_cons_succ]
  refine .inl ⟨.int .i64 0, fun v W hW hd => step_run rfl _ W (by clear hd; go_simp) rfl (Gw.refl _), ?_⟩
  simp only [Act.put, List.setIfInBounds_toArray, List.set_cons_zero, List.set_cons_succ]
  refine .inl ⟨.string GS, fun v W hW hd => step_run rfl _ W (by clear hd; go_simp) rfl (Gw.refl _), ?_⟩
  simp only [Act.put, List.setIfInBounds_toArray, List.set_cons_zero, List.set_cons_succ]
  refine .inl ⟨.int .i64 0, fun v W hW hd => step_run rfl _ W (by clear hd; go_simp) rfl (Gw.refl _), ?_⟩
  simp only [Act.put, List.setIfInBounds_toArray, List.set_cons_zero, List.set_cons_succ]
  intro v w3 hW3 hV
  clear hV
  have HB3 : Hid (Below w.heap.size w w3) := HBA.out.trans (Below.mono hW3 HBA.out.size)
  clear hget HcI HcB hW3
  have hrd := tread_oy GS w3 (by omega) (HT.out w3 (HB3.out.mono hbase))
  unfold TgOy at hrd
  go_wp2_with fail
  refine hrd.mono ?_
  rintro e w4 ⟨v4, l4, B4, rfl, hd4, ho4, hl4, hb4⟩
  have HB4 : Hid (Below w.heap.size w w4) := HB3.out.trans (hb4.mono HB3.out.size)
  have HO4 : Hid (Oy 7 80 NdG B4 w4 v4 l4) := ho4
  obtain ⟨na, nc, rfl⟩ := ho4.ry.slice
  have HRp4 : Hid (Rpt base b m nq bs w4 items) := HRp.out.below HB4.out
  have HD4 : Hid (nds l4 = (Td.read GS.data.toList).1) := hd4
  clear hrd hb4 ho4 hd4
  by_cases hE : (Td.read GS.data.toList).2 = 0
  case neg =>
    have HRe : Hid (R = ([], (Td.read GS.data.toList).2)) := by show _ = _; rw [HRd2.out, if_pos hE]
    have hne : ((Td.read GS.data.toList).2 != 0) = true := by rw [bne_iff_ne]; exact hE
    have HE : Hid ((Td.read GS.data.toList).2 ≠ 0) := hE
    generalize (Td.read GS.data.toList).2 = ER at *
    clear HRd2 hE
    go_wp2_with fail
    go_ret
    exact ⟨by rw [HRe.out]; rfl, Rf.of_below HB4.out hbase, fun e => by rw [HRe.out] at e; exact absurd e HE.out⟩
  have hchk : Td.check (nds l4) = 0 := by
    rw [HD4.out]
    exact (Td.write_read (Prod.ext rfl hE)).2.1
  have HNk : Hid (∀ n ∈ l4, Nk n) := fun n hn => nk_of hchk hn
  have HRn : Hid (R = Wk.reapNodes (pl bs) (Wk.reapDir (pl bs) k) path (nds (l4.drop 0)) (its items)) := by
    show _ = _
    rw [HRd2.out, if_neg (fun q => q hE), ← HD4.out]; rfl
  have HRf4 : Hid (Rf base w w4) := Rf.of_below HB4.out hbase
  obtain ⟨N, hN⟩ : ∃ N, N = l4.length := ⟨_, rfl⟩
  have HN : Hid (N = l4.length) := hN
  rw [← hN] at HO4 hl4 ⊢
  rw [hE]
  have HPl2 : Hid ((Nn.tails path).length ≤ 100000) := by
    have h1 := HPl.out
    rw [HPT.out, mkB, Lib.size_eq] at h1
    exact h1
  clear HRd2 hE hchk hN HD4
  go_wp2_with fail
  go_loopw [35] (fun i wr => ∃ (j : Nat) (ij : List Im), j ≤ N ∧ i = .int .i64 j ∧ Hid (R = Wk.reapNodes (pl bs) (Wk.reapDir (pl bs) k) path (nds (l4.drop j)) (its ij)) ∧ Hid (Rpt base b m nq bs wr ij) ∧ Hid (Rf base w wr) ∧ Hid (Oy 7 80 NdG B4 wr (.slice na N nc) l4)) (fun i _ => N - (intOf i).toNat)
  case atStart => exact ⟨0, items, by omega, rfl, HRn, HRp4, HRf4, HO4⟩
  case round =>
    clear HRn HRp4 HRf4 HO4
    obtain ⟨j, ij, hj, rfl, HRn, HRp, HRf, HO⟩ := hrel
    by_cases hlt : j < N
    · have hjl : j < l4.length := by rw [← HN.out]; exact hlt
      obtain ⟨n, hx⟩ : ∃ n, l4[j]? = some n := ⟨_, List.getElem?_eq_getElem hjl⟩
      have hnk := HNk.out n (List.mem_of_getElem? hx)
      obtain ⟨kb, ko, cs, rfl, hkb, hcl, hng, hcell⟩ := HO.out.ry.get j n hx
      obtain ⟨pv, ecs, hrx, hty, hno⟩ := hng
      subst ecs
      have hdrop : nds (l4.drop j) = n.nd :: nds (l4.drop (j + 1)) := by
        rw [List.drop_eq_getElem_cons hjl, (List.getElem?_eq_some_iff.1 hx).2]; rfl
      obtain ⟨S, hS⟩ : ∃ S, S = Wk.rstep (pl bs) (Wk.reapDir (pl bs) k) path n.nd (its ij) := ⟨_, rfl⟩
      have HRs : Hid (R = if S.2 ≠ 0 then ([], S.2) else Wk.reapNodes (pl bs) (Wk.reapDir (pl bs) k) path (nds (l4.drop (j + 1))) S.1) := by
        show _ = _
        rw [HRn.out, hdrop, Wk.rnodes_step, ← hS]
      obtain ⟨WB, hWB⟩ : ∃ WB, WB = wr.alloc (.cells (ndC n pv).toArray 80) := ⟨_, rfl⟩
      have hbB : Below wr.heap.size wr WB := by rw [hWB]; exact (Below.refl _ wr).alloc (Nat.le_refl _) _
      have hbw : base ≤ wr.heap.size := Nat.le_trans hbase HRf.out.size
      have HfB : Hid (Rf base w WB) := HRf.out.trans (Rf.of_below hbB hbw)
      have hngB : NdG WB n (ndC n pv) := NdG.keep hbB.size (fun q cur fr ho => (hbB.block q (Array.getElem?_eq_some_iff.1 ho).1).trans ho) ⟨pv, rfl, hrx, hty, hno⟩
      have hnode := rnode_any base b m nq bs hsm k ih path Hmisc.out.1 Hmisc.out.2 n pv hnk ij WB (HRp.out.below hbB) hngB (fun W hW => HT.out W (HfB.out.low.trans hW)) S hS
      have HOB : Hid (Oy 7 80 NdG B4 WB (.slice (some ⟨kb, ko, none⟩) N nc) l4) := HO.out.belowN hbB
      have hc1 : ∀ W : World, (Op.stringOp .add PT ⟨#[47]⟩).run Tryz.prog W = .ok (.string ⟨(Nn.tails path ++ [47]).toArray⟩) W := fun W => by
        have := run_string_add_lists (P := Tryz.prog) W (Nn.tails path) [47] (by have := HPl2.out; omega) (by simp)
        rw [HPT.out]
        exact this
      obtain ⟨PT2, hPT2⟩ : ∃ PT2 : ByteArray, PT2 = ⟨(Nn.tails path ++ [47]).toArray⟩ := ⟨_, rfl⟩
      rw [← hPT2] at hc1
      have hc2 : ∀ W : World, (Op.stringOp .add PT2 n.name).run Tryz.prog W = .ok (.string (mkB (Nn.tails (path ++ [n.name.data.toList])))) W := fun W => by
        have := run_string_add_lists (P := Tryz.prog) W (Nn.tails path ++ [47]) n.name.data.toList (by have := HPl2.out; simp; omega) (by have := hnk.name.2; omega)
        rw [hPT2, Wk.tails_snoc]
        rw [List.append_assoc] at this
        exact this
      obtain ⟨PN, hPN⟩ : ∃ PN, PN = mkB (Nn.tails (path ++ [n.name.data.toList])) := ⟨_, rfl⟩
      rw [← hPN] at hnode hc2
      obtain ⟨name, kind, mode, time, size, parts, link⟩ := n
      dsimp only [ndC] at *
      obtain ⟨pa, pc, epc, _, _⟩ := hrx.slice
      subst epc
      have x0 := hcell 0 _ rfl
      have x1 := hcell 1 _ rfl
      have x2 := hcell 2 _ rfl
      have x3 := hcell 3 _ rfl
      have x4 := hcell 4 _ rfl
      have x5 := hcell 5 _ rfl
      have x6 := hcell 6 _ rfl
      rw [Nat.add_zero] at x0
      generalize parts.length = PL at *
      clear hcell hdrop hngB hrx hty hno hPT2 hPN hx hS hjl hbB HRp HO HRn hcl hnk
      go_wp2_with fail
      rw [← hWB]
      refine hnode.mono ?_
      rintro e w5 ⟨rfl, f5, hz⟩
      have HF5 : Hid (Rf base w w5) := HfB.trans f5
      have HO5 : Hid (Oy 7 80 NdG B4 w5 (.slice (some ⟨kb, ko, none⟩) N nc) l4) := HOB.out.keep f5.size fun q cur t fr ht ho => f5.cells ho (by rcases ht with e | e <;> (rw [e]; decide)) (by rcases ht with e | e <;> (rw [e]; decide))
      have HZ : Hid (S.2 = 0 → ∃ items', its items' = S.1 ∧ Rpt base b m nq bs w5 items') := hz
      clear hWB hnode f5 hz x0 x1 x2 x3 x4 x5 x6 hc1 hc2 hkb HfB HOB
      by_cases hE : S.2 = 0
      · obtain ⟨ij', hi1, hi2⟩ := HZ.out hE
        have HRn : Hid (R = Wk.reapNodes (pl bs) (Wk.reapDir (pl bs) k) path (nds (l4.drop (j + 1))) (its ij')) := by show _ = _; rw [HRs.out, if_neg (fun q => q hE), hi1]
        have HRp : Hid (Rpt base b m nq bs w5 ij') := hi2
        rw [hE]
        clear HRs HZ hi1 hi2 hE
        go_wp2_with fail
        go_roundw
        case measure => simp only [intOf]; omega
        case rel => exact ⟨j + 1, ij', by omega, by go_num, HRn, HRp, HF5, HO5⟩
      · have HRe : Hid (R = ([], S.2)) := by show _ = _; rw [HRs.out, if_pos hE]
        have hne : (S.2 != 0) = true := by rw [bne_iff_ne]; exact hE
        have HE : Hid (S.2 ≠ 0) := hE
        generalize S.2 = ER at *
        clear HRs HZ hE
        go_wp2_with fail
        go_ret
        exact ⟨by rw [HRe.out]; rfl, HF5.out, fun e => by rw [HRe.out] at e; exact absurd e HE.out⟩
    · obtain rfl : j = N := by omega
      have HRe : Hid (R = (its ij, 0)) := by
        have e : l4.drop j = [] := by rw [HN.out]; exact List.drop_of_length_le (Nat.le_refl _)
        show _ = _
        rw [HRn.out, e]; rfl
      clear HRn HO
      go_wp2_with fail
      go_ret
      exact ⟨by rw [HRe.out]; rfl, HRf.out, fun _ => ⟨ij, by rw [HRe.out], HRp.out⟩⟩

theorem rdir_all {base b m nq : Nat} {bs : List Blb} (hsm : Sm bs) : ∀ k, 1 ≤ k → RDirOk base b m nq bs k
  | 0, h => by omega
  | k + 1, _ => rdir_step base b m nq bs hsm k fun h => rdir_all hsm k h

end Go.Proofs.YtimdioacmojkeabGreatDoor

namespace Go.Proofs.YtimdioacmojkeabGreatDoor
open Go.RowKit
set_option maxRecDepth 4000
open Nn (Name)
namespace Wk
/-- what Reap tells, in plain words -/
def reapP (l : List Pk.Bl) (root : Bs) : List It × Int := if (heapP l).2 ≠ 0 then ([], (heapP l).2) else reapDir (heapP l).1 9 root [] []

theorem gath_ok : ∀ (r acc L : List Pk.Bl), gath r acc = (L, 0) → (∀ b ∈ acc, b ∈ L) ∧ (∀ b ∈ r, b ∈ L) ∧ (∀ b ∈ L, b ∈ acc ∨ b ∈ r) ∧ (∀ b ∈ r, Pk.bErr b = 0) ∧ (Fine acc → Fine L)
  | [], acc, L, h => by
    rw [gath] at h
    cases h
    exact ⟨fun _ q => q, fun _ q => absurd q List.not_mem_nil, fun _ q => .inl q, fun _ q => absurd q List.not_mem_nil, fun q => q⟩
  | b :: r, acc, L, h => by
    rw [gath] at h
    split at h
    · rename_i q; exact absurd (congrArg Prod.snd h) q
    rename_i q
    rcases hi : into acc b with ⟨l1, id, e⟩
    rw [hi] at h q
    dsimp only at h q
    obtain rfl := Decidable.not_not.mp q
    obtain ⟨i1, i2, i3, i4, i5, i6⟩ := into_ok hi
    obtain ⟨g1, g2, g3, g4, g5⟩ := gath_ok r l1 L h
    refine ⟨fun x hx => g1 x (i4 x hx), fun x hx => ?_, fun x hx => ?_, fun x hx => ?_, fun q => g5 (i5 q)⟩
    · rcases List.mem_cons.1 hx with e | hx
      · rw [e]; exact g1 b i3
      · exact g2 x hx
    · rcases g3 x hx with q | q
      · rcases i6 with e | e
        · rw [e] at q; exact .inl q
        · rw [e] at q
          rcases List.mem_append.1 q with q | q
          · exact .inl q
          · rw [List.mem_singleton.1 q]; exact .inr List.mem_cons_self
      · exact .inr (List.mem_cons_of_mem _ q)
    · rcases List.mem_cons.1 hx with e | hx
      · rw [e]; exact i1
      · exact g4 x hx

end Wk

theorem bErr_small {b : Pk.Bl} (h : Pk.bErr b = 0) : b.2.length ≤ 4096 := by
  unfold Pk.bErr at h
  split at h
  · split at h
    · cases h
    · omega
  · cases h

theorem heap_small {l : List Pk.Bl} {bs : List Blb} (h : Wk.heapP l = (pl bs, 0)) : Sm bs := by
  unfold Wk.heapP at h
  split at h
  · exact absurd (congrArg Prod.snd h) (by simp)
  intro x hx
  obtain ⟨_, _, g3, g4, _⟩ := Wk.gath_ok l [] (pl bs) h
  have hm : x.p ∈ pl bs := List.mem_map_of_mem hx
  rcases g3 x.p hm with q | q
  · exact absurd q List.not_mem_nil
  · have := bErr_small (g4 x.p q)
    rw [Lib.size_eq]
    exact this

/-- what Reap answers -/
def RpOut (l : List Blb) (root : Wk.Bs) (w : World) (e : Ending) (w' : World) : Prop :=
  ∃ v, e = .returned (.tuple #[v, .int .i64 (Wk.reapP (pl l) root).2]) ∧ Below w.heap.size w w' ∧ ((Wk.reapP (pl l) root).2 ≠ 0 → v = .slice none 0 0) ∧
    ((Wk.reapP (pl l) root).2 = 0 → ∃ items, its items = (Wk.reapP (pl l) root).1 ∧ w'.ownsRow w.heap.size 36 5 v items.length (rowR imC items) ∧ items.length ≤ 100)

set_option maxHeartbeats 4000000 in
set_option maxRecDepth 10000 in
theorem reap_any (v : Value) (l : List Blb) (root : Wk.Bs) (w : World) (h : Bx w v l) (hok : BOk l) (hl : l.length ≤ 140737488351232) (hr : root.length = 8) (hT : Tabs w) :
    Calls Tryz.prog 13 #[v, idV root] w (RpOut l root w) := by
  unfold RpOut
  obtain ⟨R, hR⟩ : ∃ R, R = Wk.reapP (pl l) root := ⟨_, rfl⟩
  rw [← hR]
  obtain ⟨b0, b1, b2, b3, b4, b5, b6, b7, rfl⟩ := eight root hr
  have eV : idV [b0, b1, b2, b3, b4, b5, b6, b7] = .agg #[.int .u8 (b0.toNat : Int), .int .u8 (b1.toNat : Int), .int .u8 (b2.toNat : Int), .int .u8 (b3.toNat : Int), .int .u8 (b4.toNat : Int), .int .u8 (b5.toNat : Int), .int .u8 (b6.toNat : Int), .int .u8 (b7.toNat : Int)] := rfl
  rw [eV]
  obtain ⟨W1, hW1⟩ : ∃ W1, W1 = w.alloc (.cells #[.int .u8 (b0.toNat : Int), .int .u8 (b1.toNat : Int), .int .u8 (b2.toNat : Int), .int .u8 (b3.toNat : Int), .int .u8 (b4.toNat : Int), .int .u8 (b5.toNat : Int), .int .u8 (b6.toNat : Int), .int .u8 (b7.toNat : Int)] 30) := ⟨_, rfl⟩
  have hB1 : Below w.heap.size w W1 := by rw [hW1]; exact (Below.refl _ w).alloc (Nat.le_refl _) _
  have HB1 : Hid (Below w.heap.size w W1) := hB1
  have HI1 : Hid (W1.heap[w.heap.size]? = some (.cells #[.int .u8 (b0.toNat : Int), .int .u8 (b1.toNat : Int), .int .u8 (b2.toNat : Int), .int .u8 (b3.toNat : Int), .int .u8 (b4.toNat : Int), .int .u8 (b5.toNat : Int), .int .u8 (b6.toNat : Int), .int .u8 (b7.toNat : Int)] 30 (0, 0))) := by rw [hW1]; exact heap_alloc_new w _
  have HT : Hid (Tabs w) := hT
  obtain ⟨H, hH⟩ : ∃ H, H = Wk.heapP (pl l) := ⟨_, rfl⟩
  have HH : Hid (H = Wk.heapP (pl l)) := hH
  have HR : Hid (R = if H.2 ≠ 0 then ([], H.2) else Wk.reapDir H.1 9 [b0, b1, b2, b3, b4, b5, b6, b7] [] []) := by show _ = _; rw [hR, hH]; rfl
  have hheap := heapOf_any v l W1 (h.below hB1) hok hl H hH
  obtain ⟨va, vc, rfl, _, _⟩ := h.slice
  generalize l.length = LN at *
  clear hR h hok hT hH hB1 eV hr
  go_enter Tryz.func13, Tryz.ntmps13
  go_upto_region 1 with fail
  rw [← hW1]
  clear hW1
  go_wp2_with fail
  refine hheap.mono ?_
  rintro e w2 ⟨hv, rfl, b2', hv1, hv2⟩
  have HB2 : Hid (Below w.heap.size w w2) := HB1.out.trans (b2'.mono HB1.out.size)
  by_cases hE : H.2 = 0
  case neg =>
    have HRe : Hid (R = ([], H.2)) := by show _ = _; rw [HR.out, if_pos hE]
    have hne : (H.2 != 0) = true := by rw [bne_iff_ne]; exact hE
    have HE : Hid (H.2 ≠ 0) := hE
    obtain rfl := hv1 hE
    generalize H.2 = ER at *
    clear HR hE hheap hv1 hv2 HH
    go_wp2_with fail
    go_ret2
    exact ⟨_, by rw [HRe.out]; rfl, HB2.out, fun _ => rfl, fun e => by rw [HRe.out] at e; exact absurd e HE.out⟩
  obtain ⟨m, n, bs, rfl, hn, hbl, hpl, hmw, hmp⟩ := hv2 hE
  have hHe : H = (pl bs, 0) := Prod.ext hpl.symm hE
  have hsm : Sm bs := heap_small (by rw [← HH.out]; exact hHe)
  have HR2 : Hid (R = Wk.reapDir (pl bs) 9 [b0, b1, b2, b3, b4, b5, b6, b7] [] (its [])) := by show _ = _; rw [HR.out, hHe]; rfl
  obtain ⟨W3, hW3⟩ : ∃ W3, W3 = w2.alloc (.cells #[.map (some m), .slice none 0 0] 71) := ⟨_, rfl⟩
  have hB3 : Below w2.heap.size w2 W3 := by rw [hW3]; exact (Below.refl _ w2).alloc (Nat.le_refl _) _
  have hb3 : W3.heap[w2.heap.size]? = some (.cells #[.map (some m), .slice none 0 0] 71 (0, 0)) := by rw [hW3]; exact heap_alloc_new w2 _
  have hb12 := b2'.size
  have hRp : Rpt W1.heap.size w2.heap.size m n bs W3 [] := ⟨⟨_, hb3, World.ownsRow_nil _ _ _ _⟩, hmp.below hB3, hb12, hmw, by simp⟩
  have HB3 : Hid (Below w.heap.size w W3) := HB2.out.trans (hB3.mono HB2.out.size)
  have hdir := rdir_all (base := W1.heap.size) (b := w2.heap.size) (m := m) (nq := n) hsm 9 (by omega) [] [b0, b1, b2, b3, b4, b5, b6, b7] [] W3 (by simp) (fun _ q => absurd q List.not_mem_nil) rfl hRp (fun W hW => HT.out.below (HB3.out.trans ((hW.mono HB1.out.size)))) R HR2.out
  have hdir' : Calls Tryz.prog 27 #[.pointer (some ⟨w2.heap.size, 0, none⟩), .agg #[.int .u8 (b0.toNat : Int), .int .u8 (b1.toNat : Int), .int .u8 (b2.toNat : Int), .int .u8 (b3.toNat : Int), .int .u8 (b4.toNat : Int), .int .u8 (b5.toNat : Int), .int .u8 (b6.toNat : Int), .int .u8 (b7.toNat : Int)], .string ⟨#[]⟩] W3 fun e w' => e = .returned (.int .i64 R.2) ∧ Rf W1.heap.size W3 w' ∧ (R.2 = 0 → ∃ items', its items' = R.1 ∧ Rpt W1.heap.size w2.heap.size m n bs w' items') := hdir
  have hI3 : W3.heap[w.heap.size]? = some (.cells #[.int .u8 (b0.toNat : Int), .int .u8 (b1.toNat : Int), .int .u8 (b2.toNat : Int), .int .u8 (b3.toNat : Int), .int .u8 (b4.toNat : Int), .int .u8 (b5.toNat : Int), .int .u8 (b6.toNat : Int), .int .u8 (b7.toNat : Int)] 30 (0, 0)) := by
    have h2 := (b2'.block _ (Array.getElem?_eq_some_iff.1 HI1.out).1).trans HI1.out
    exact (hB3.block _ (Array.getElem?_eq_some_iff.1 h2).1).trans h2
  obtain ⟨c0, c1, c2, c3, c4, c5, c6, c7⟩ := (I8.laid hI3).cells
  rw [hE]
  clear hdir hheap hv1 hv2 b2' HR hE hHe hpl hI3 hb3 hB3 hRp hmp
  go_upto_region 5 with fail
  rw [← hW3]
  clear hW3
  go_wp2_with fail
  refine hdir'.mono ?_
  rintro e w7 ⟨rfl, f7, hz⟩
  have HB7 : Hid (Below w.heap.size w w7) := HB3.out.trans (f7.low.mono HB1.out.size)
  clear hdir' c0 c1 c2 c3 c4 c5 c6 c7
  by_cases hE : R.2 = 0
  · obtain ⟨items, hi1, ⟨⟨iv, q1, q2⟩, _, _, _, q6⟩⟩ := hz hE
    obtain ⟨d0, d1⟩ := pair_at q1
    have HF : Hid (R.2 = 0 ∧ its items = R.1 ∧ w7.ownsRow w.heap.size 36 5 iv items.length (rowR imC items) ∧ items.length ≤ 100) := ⟨hE, hi1, own_lower q2 HB1.out.size, q6⟩
    obtain ⟨ia, ic, rfl⟩ := own_form q2
    obtain ⟨IN, hIN⟩ : ∃ IN, IN = items.length := ⟨_, rfl⟩
    rw [← hIN] at d1
    rw [hE]
    have HIN : Hid (IN = items.length) := hIN
    clear hz q1 q2 hi1 hE hIN
    go_wp2_with fail
    go_ret2
    exact ⟨_, by rw [HF.out.1]; rfl, HB7.out, fun e => absurd HF.out.1 e, fun _ => ⟨items, HF.out.2.1, by rw [HIN.out]; exact HF.out.2.2.1, HF.out.2.2.2⟩⟩
  · have hne : (R.2 != 0) = true := by rw [bne_iff_ne]; exact hE
    have HE : Hid (R.2 ≠ 0) := hE
    clear hz hE
    go_wp2_with fail
    go_ret2
    exact ⟨_, rfl, HB7.out, fun _ => rfl, fun e => absurd e HE.out⟩

end Go.Proofs.YtimdioacmojkeabGreatDoor

namespace Go.Proofs.YtimdioacmojkeabGreatDoor
namespace Wk

theorem Fine.sub {l l' : List Pk.Bl} (h : Fine l) (hs : ∀ x ∈ l', x ∈ l) : Fine l' := ⟨fun b hb => h.ok b (hs b hb), fun a ha b hb => h.one a (hs a ha) b (hs b hb)⟩

theorem gath_fine : ∀ (r acc : List Pk.Bl), Fine (acc ++ r) → (gath r acc).2 = 0
  | [], _, _ => rfl
  | b :: r, acc, h => by
    have hb : Pk.bErr b = 0 := h.ok b (by simp)
    have hi : (into acc b).2.2 = 0 ∧ ∀ x ∈ (into acc b).1, x ∈ acc ∨ x = b := by
      unfold into
      rw [if_neg (by simp [hb])]
      cases hf : acc.find? (fun x => Pk.bid x == Pk.bid b) with
      | none => exact ⟨rfl, fun x hx => by simpa using hx⟩
      | some x =>
        have hx : Pk.bid x = Pk.bid b := by simpa using List.find?_some hf
        have hm := List.mem_of_find?_eq_some hf
        have e : x = b := h.one x (List.mem_append_left _ hm) b (by simp) hx
        simp only [e, if_true]
        exact ⟨trivial, fun y hy => .inl hy⟩
    rw [gath, if_neg (by simp [hi.1])]
    refine gath_fine r _ (h.sub fun x hx => ?_)
    rcases List.mem_append.1 hx with k | k
    · rcases hi.2 x k with q | q
      · exact List.mem_append_left _ q
      · rw [q]; simp
    · exact List.mem_append_right _ (List.mem_cons_of_mem _ k)

theorem reap_back {w : List It} {l : List Pk.Bl} {id : Bs} (hb : ∀ L, Fine L → (∀ x ∈ l, x ∈ L) → reapDir L 9 id [] [] = (w, 0)) {l' : List Pk.Bl} (hF : Fine l') (hn : l'.length ≤ 1000) (hs : ∀ x ∈ l, x ∈ l') : reapP l' id = (w, 0) := by
  have hg : (gath l' []).2 = 0 := gath_fine l' [] (by simpa using hF)
  obtain ⟨L, hL⟩ : ∃ L, gath l' [] = (L, 0) := ⟨_, Prod.ext rfl hg⟩
  have hp : heapP l' = (L, 0) := by rw [heapP, if_neg (by omega), hL]
  obtain ⟨_, h2, _, _, h5⟩ := gath_ok l' [] L hL
  rw [reapP, hp]
  simp only [ne_eq, not_true, if_false]
  exact hb L (h5 ⟨fun _ q => absurd q List.not_mem_nil, fun _ q => absurd q List.not_mem_nil⟩) fun x hx => h2 x (hs x hx)

theorem reap_large {l' : List Pk.Bl} (h : 1000 < l'.length) (id : Bs) : reapP l' id = ([], 2) := by
  have hp : heapP l' = ([], 2) := by rw [heapP, if_pos h]
  rw [reapP, hp]
  simp

end Wk

end Go.Proofs.YtimdioacmojkeabGreatDoor

namespace Go.Proofs.YtimdioacmojkeabGreatDoor
open Go.RowKit

theorem small_plantP : (plantP 16 0 0 0 Wk.small).2.2 = 0 ∧ (plantP 16 0 0 0 Wk.small).1.length = 4 := by decide +kernel

/-- what a planted world is -/
structure Pld (fx mn mx bt : Int) (l : List Im) (bs : List Pk.Bl) (root : Wk.Bs) : Prop where
  way : wayN fx mn mx bt = 0
  world : Wk.world (its l) = 0
  few : (its l).length ≤ 100
  plant : Wk.plantDir (cutF fx mn mx bt) (its l) 9 [] [] = (bs, root, 0)
  good : Wk.Good (cutF fx mn mx bt) (its l)
  fine : Wk.Fine bs
  back : ∀ L, Wk.Fine L → (∀ x ∈ bs, x ∈ L) → Wk.reapDir L 9 root [] [] = (its l, 0)

theorem its_time {l : List Im} (hok : ∀ x ∈ l, x.Ok) : ∀ x ∈ its l, -9223372036854775808 ≤ x.time ∧ x.time ≤ 9223372036854775807 := fun x hx => by
  obtain ⟨y, hy, rfl⟩ := List.mem_map.1 hx
  exact (hok y hy).time2

theorem Pld.of {fx mn mx bt : Int} {l : List Im} (hok : ∀ x ∈ l, x.Ok) (h : (plantP fx mn mx bt (its l)).2.2 = 0) : Pld fx mn mx bt l (plantP fx mn mx bt (its l)).1 (plantP fx mn mx bt (its l)).2.1 := by
  by_cases hw : wayN fx mn mx bt = 0
  case neg =>
    rw [plantP, if_pos hw] at h
    exact absurd h hw
  by_cases hd : Wk.world (its l) = 0
  case neg =>
    rw [plantP, if_neg (fun q => q hw), if_pos hd] at h
    exact absurd h hd
  have hp : plantP fx mn mx bt (its l) = Wk.plantDir (cutF fx mn mx bt) (its l) 9 [] [] := by rw [plantP, if_neg (fun q => q hw), if_neg (fun q => q hd)]
  obtain ⟨h1, h2⟩ := Wk.world_ok hd
  have hc : ∀ x ∈ its l, x.kind = 1 → (cutF fx mn mx bt x.bytes).flatten = x.bytes := fun x hx hk => cutF_join hw x.bytes ((Wk.iErr_ok (h2.each x hx)).file hk)
  have hpl : Wk.plantDir (cutF fx mn mx bt) (its l) 9 [] [] = ((plantP fx mn mx bt (its l)).1, (plantP fx mn mx bt (its l)).2.1, 0) := by
    rw [← hp, ← h]
  obtain ⟨b1, b2⟩ := Wk.world_back hd (its_time hok) hc hpl
  exact ⟨hw, hd, h1, hpl, ⟨h2, its_time hok, hc⟩, b1, b2⟩

theorem bok_fine {bs : List Blb} (h : Wk.Fine (pl bs)) : BOk bs := fun b hb => by
  obtain ⟨h1, h2⟩ := Pk.bErr_ok (h.ok b.p (List.mem_map_of_mem hb))
  have h2 : b.bytes.data.toList.length ≤ 4096 := h2
  have hk : b.kind = 1 ∨ b.kind = 2 ∨ b.kind = 3 := h1
  refine ⟨?_, by rw [Lib.size_eq]; omega⟩
  rcases hk with k | k | k <;> rw [k] <;> decide

end Go.Proofs.YtimdioacmojkeabGreatDoor

namespace Go.Proofs.YtimdioacmojkeabGreatDoor
open Go.RowKit
set_option maxRecDepth 4000

theorem eqf_nil {P : Program} (W : World) (d : Nat) (xs ys : Array Value) : (Op.eqFields d xs ys []).run P W = .ok true W := by
  simp only [Op.eqFields, Sem.run_pure]

theorem eqf_cons {P : Program} (W : World) (d : Nat) (xs ys : Array Value) (f : Field) (fs : List Field) (v u : Value) (a b : Bool) (n : f.name ≠ "_")
    (p : (part f.type xs f.offset).run P W = .ok v W) (q : (part f.type ys f.offset).run P W = .ok u W) (e : (Op.equalIn d f.type v u).run P W = .ok a W) (h : (Op.eqFields d xs ys fs).run P W = .ok b W) :
    (Op.eqFields d xs ys (f :: fs)).run P W = .ok (a && b) W := by
  cases a <;> simp only [Op.eqFields, if_pos n, Sem.run_bind, p, q, Result.andThen_ok, e, Bool.not_true, Bool.not_false, Bool.false_eq_true, if_false, if_true, Sem.run_pure, Bool.true_and, Bool.false_and, h]

theorem fields_it : ∃ f0 f1 f2 f3 f4, (Tryz.prog.fieldsOf 36).toList = [f0, f1, f2, f3, f4] ∧ f0.type = 9 ∧ f0.offset = 0 ∧ f0.name ≠ "_" ∧ f1.type = 3 ∧ f1.offset = 1 ∧ f1.name ≠ "_" ∧ f2.type = 3 ∧ f2.offset = 2 ∧ f2.name ≠ "_" ∧ f3.type = 3 ∧ f3.offset = 3 ∧ f3.name ≠ "_" ∧ f4.type = 9 ∧ f4.offset = 4 ∧ f4.name ≠ "_" := by
  rw [show (Tryz.prog.fieldsOf 36) = _ from by unfold Program.fieldsOf; rw [Tryz.underlying36]]
  exact ⟨_, _, _, _, _, rfl, rfl, rfl, by decide, rfl, rfl, by decide, rfl, rfl, by decide, rfl, rfl, by decide, rfl, rfl, by decide⟩

/-- are two items the same? -/
def imSame (a b : Im) : Bool := (a.path.toList == b.path.toList) && ((a.kind == b.kind) && ((a.mode == b.mode) && ((a.time == b.time) && ((a.bytes.toList == b.bytes.toList) && true))))

theorem imSame_iff {a b : Im} : imSame a b = true ↔ a = b := by
  constructor
  · intro h
    simp only [imSame, Bool.and_eq_true, beq_iff_eq, Lib.toList_data] at h
    obtain ⟨h0, h1, h2, h3, h4, _⟩ := h
    refine Im.it_inj ?_
    simp only [Im.it, h0, h1, h2, h3, h4]
  · rintro rfl
    simp [imSame]

theorem it_cmp_at (d : Nat) (W : World) (a b : Im) :
    (Op.equalIn (d + 1 + 1) 36 (imV a) (imV b)).run Tryz.prog W = .ok (imSame a b) W := by
  have hp : Tryz.prog.stoodInHeld 36 = false := by kernel_rfl
  have hf : Tryz.prog.underlying 36 = some (.struct (Tryz.prog.fieldsOf 36)) := by kernel_rfl
  obtain ⟨f0, f1, f2, f3, f4, hfs, t0, o0, n0, t1, o1, n1, t2, o2, n2, t3, o3, n3, t4, o4, n4⟩ := fields_it
  have hs : ∀ s t : ByteArray, (Op.equalIn (d + 1) 9 (.string s) (.string t)).run Tryz.prog W = .ok (s.toList == t.toList) W := fun s t => run_equalIn_string (P := Tryz.prog) W d 9 s t (by kernel_rfl)
  have hi : ∀ x y : Int, (Op.equalIn (d + 1) 3 (.int .i64 x) (.int .i64 y)).run Tryz.prog W = .ok (x == y) W := fun x y => run_equalIn_int W d 3 .i64 .i64 x y (by kernel_rfl)
  rw [run_equalIn_struct W (d + 1) 36 _ _ hf hp, hfs]
  refine eqf_cons W (d + 1) _ _ f0 _ (.string a.path) (.string b.path) _ _ n0 (by rw [t0, o0]; simp [part, go_sem]) (by rw [t0, o0]; simp [part, go_sem]) (by rw [t0]; exact hs _ _) ?_
  refine eqf_cons W (d + 1) _ _ f1 _ (.int .i64 a.kind) (.int .i64 b.kind) _ _ n1 (by rw [t1, o1]; simp [part, go_sem]) (by rw [t1, o1]; simp [part, go_sem]) (by rw [t1]; exact hi _ _) ?_
  refine eqf_cons W (d + 1) _ _ f2 _ (.int .i64 a.mode) (.int .i64 b.mode) _ _ n2 (by rw [t2, o2]; simp [part, go_sem]) (by rw [t2, o2]; simp [part, go_sem]) (by rw [t2]; exact hi _ _) ?_
  refine eqf_cons W (d + 1) _ _ f3 _ (.int .i64 a.time) (.int .i64 b.time) _ _ n3 (by rw [t3, o3]; simp [part, go_sem]) (by rw [t3, o3]; simp [part, go_sem]) (by rw [t3]; exact hi _ _) ?_
  refine eqf_cons W (d + 1) _ _ f4 _ (.string a.bytes) (.string b.bytes) _ _ n4 (by rw [t4, o4]; simp [part, go_sem]) (by rw [t4, o4]; simp [part, go_sem]) (by rw [t4]; exact hs _ _) ?_
  exact eqf_nil W (d + 1) _ _

theorem it_cmp (W : World) (a b : Im) : (Op.equalIn 10000 36 (.agg #[.string a.path, .int .i64 a.kind, .int .i64 a.mode, .int .i64 a.time, .string a.bytes]) (.agg #[.string b.path, .int .i64 b.kind, .int .i64 b.mode, .int .i64 b.time, .string b.bytes])).run Tryz.prog W = .ok (imSame a b) W := it_cmp_at 9998 W a b

set_option maxHeartbeats 2000000 in
theorem equal_items (v1 v2 : Value) (l m : List Im) (w : World) (h1 : Ims w v1 l) (h2 : Ims w v2 m) (hl : l.length ≤ 140737488351232) :
    Calls Tryz.prog 14 #[v1, v2] w fun e w' => ∃ b : Bool, e = .returned (.bool b) ∧ (b = true ↔ l = m) ∧ Below w.heap.size w w' := by
  obtain ⟨a1, c1, rfl, j1, j2⟩ := h1.slice
  obtain ⟨a2, c2, rfl, j3, j4⟩ := h2.slice
  clear j1 j2 j3 j4
  obtain ⟨n1, hn1⟩ : ∃ n, n = l.length := ⟨_, rfl⟩
  obtain ⟨n2, hn2⟩ : ∃ n, n = m.length := ⟨_, rfl⟩
  have HN1 : Hid (n1 = l.length) := hn1
  have HN2 : Hid (n2 = m.length) := hn2
  rw [← hn1] at h1 hl ⊢
  rw [← hn2] at h2 ⊢
  clear hn1 hn2
  by_cases hq : n1 = n2
  case neg =>
    have hb : ((n1 : Int) != (n2 : Int)) = true := by rw [bne_iff_ne]; omega
    have HF : Hid (l ≠ m) := by rintro rfl; exact hq (HN1.out.trans HN2.out.symm)
    clear hq h1 h2
    go_enter Tryz.func14, Tryz.ntmps14
    go_wp2_with fail
    go_ret
    exact ⟨false, rfl, ⟨fun q => absurd q (by decide), fun q => absurd q HF.out⟩, Below.refl _ _⟩
  subst hq
  have hb : ((n1 : Int) != (n1 : Int)) = false := by simp
  go_enter Tryz.func14, Tryz.ntmps14
  go_wp2_with fail
  clear hb
  go_loopw [13] (fun i wr => ∃ k : Nat, k ≤ n1 ∧ i = .int .i64 k ∧ l.take k = m.take k ∧ Below w.heap.size w wr) (fun i _ => n1 - (intOf i).toNat)
  case atStart => exact ⟨0, by omega, rfl, rfl, Below.refl _ _⟩
  case round =>
    obtain ⟨k, hk, rfl, hpre, hbel⟩ := hrel
    have HP : Hid (l.take k = m.take k) := hpre
    clear hpre
    by_cases hlt : k < n1
    · obtain ⟨t, ht⟩ : ∃ t, l[k]? = some t := ⟨_, List.getElem?_eq_getElem (by have := HN1.out; omega)⟩
      obtain ⟨u, hu⟩ : ∃ u, m[k]? = some u := ⟨_, List.getElem?_eq_getElem (by have := HN2.out; omega)⟩
      obtain ⟨bk, o, rfl, hbk, c0, c1, c2, c3, c4⟩ := (h1.below hbel).item k t ht
      obtain ⟨bk', o', rfl, hbk', d0, d1, d2, d3, d4⟩ := (h2.below hbel).item k u hu
      have HT : Hid (l[k]? = some t ∧ m[k]? = some u) := ⟨ht, hu⟩
      clear h1 h2 ht hu
      have x0 : ∀ X : Since wr.heap.size wr, X.val.cell? ⟨bk, o + k * 5, none⟩ = some (.string t.path) := fun X => (X.property.cell (p := ⟨bk, o + k * 5, none⟩) hbk).trans c0
      have x1 : ∀ X : Since wr.heap.size wr, X.val.cell? ⟨bk, o + k * 5 + 1, none⟩ = some (.int .i64 t.kind) := fun X => (X.property.cell (p := ⟨bk, o + k * 5 + 1, none⟩) hbk).trans c1
      have x2 : ∀ X : Since wr.heap.size wr, X.val.cell? ⟨bk, o + k * 5 + 2, none⟩ = some (.int .i64 t.mode) := fun X => (X.property.cell (p := ⟨bk, o + k * 5 + 2, none⟩) hbk).trans c2
      have x3 : ∀ X : Since wr.heap.size wr, X.val.cell? ⟨bk, o + k * 5 + 3, none⟩ = some (.int .i64 t.time) := fun X => (X.property.cell (p := ⟨bk, o + k * 5 + 3, none⟩) hbk).trans c3
      have x4 : ∀ X : Since wr.heap.size wr, X.val.cell? ⟨bk, o + k * 5 + 4, none⟩ = some (.string t.bytes) := fun X => (X.property.cell (p := ⟨bk, o + k * 5 + 4, none⟩) hbk).trans c4
      have y0 : ∀ X : Since wr.heap.size wr, X.val.cell? ⟨bk', o' + k * 5, none⟩ = some (.string u.path) := fun X => (X.property.cell (p := ⟨bk', o' + k * 5, none⟩) hbk').trans d0
      have y1 : ∀ X : Since wr.heap.size wr, X.val.cell? ⟨bk', o' + k * 5 + 1, none⟩ = some (.int .i64 u.kind) := fun X => (X.property.cell (p := ⟨bk', o' + k * 5 + 1, none⟩) hbk').trans d1
      have y2 : ∀ X : Since wr.heap.size wr, X.val.cell? ⟨bk', o' + k * 5 + 2, none⟩ = some (.int .i64 u.mode) := fun X => (X.property.cell (p := ⟨bk', o' + k * 5 + 2, none⟩) hbk').trans d2
      have y3 : ∀ X : Since wr.heap.size wr, X.val.cell? ⟨bk', o' + k * 5 + 3, none⟩ = some (.int .i64 u.time) := fun X => (X.property.cell (p := ⟨bk', o' + k * 5 + 3, none⟩) hbk').trans d3
      have y4 : ∀ X : Since wr.heap.size wr, X.val.cell? ⟨bk', o' + k * 5 + 4, none⟩ = some (.string u.bytes) := fun X => (X.property.cell (p := ⟨bk', o' + k * 5 + 4, none⟩) hbk').trans d4
      clear c0 c1 c2 c3 c4 d0 d1 d2 d3 d4
      have heq := fun W => it_cmp W t u
      have HS : Hid (imSame t u = true ↔ t = u) := imSame_iff
      have hne : Nonempty (Since wr.heap.size wr) := ⟨⟨wr, Below.refl _ _⟩⟩
      generalize imSame t u = S at *
      cases S
      · go_wp2_with fail
        refine wp_region_since (B := wr.heap.size) (W0 := wr) (by kernel_rfl) (by kernel_rfl) (Below.refl _ _) ?_
        repeat (go_big_quiet_step (fail))
        refine wpQuiet_nil ?_
        rintro w7 ⟨U, rfl⟩
        have hU := U.property
        have HB3 : Hid (Below w.heap.size w U.val) := hbel.trans (hU.mono hbel.size)
        generalize U.val = w7 at *
        clear hU hbel x0 x1 x2 x3 x4 y0 y1 y2 y3 y4 heq hne
        go_wp2_with fail
        go_ret
        refine ⟨false, rfl, ⟨fun q => absurd q (by decide), ?_⟩, HB3.out⟩
        rintro rfl
        have := HT.out.1.symm.trans HT.out.2
        have := HS.out.2 (Option.some.inj this)
        cases this
      · go_wp2_with fail
        refine wp_region_since (B := wr.heap.size) (W0 := wr) (by kernel_rfl) (by kernel_rfl) (Below.refl _ _) ?_
        repeat (go_big_quiet_step (fail))
        refine wpQuiet_nil ?_
        rintro w7 ⟨U, rfl⟩
        have hU := U.property
        have HB3 : Hid (Below w.heap.size w U.val) := hbel.trans (hU.mono hbel.size)
        generalize U.val = w7 at *
        clear hU hbel x0 x1 x2 x3 x4 y0 y1 y2 y3 y4 heq hne
        go_wp2_with fail
        go_roundw
        case rel =>
          refine ⟨k + 1, by omega, by go_num, ?_, HB3.out⟩
          rw [List.take_add_one, List.take_add_one, HP.out, HT.out.1, HT.out.2, HS.out.1 (by first | exact trivial | rfl)]
        case measure => simp only [intOf]; omega
    · go_wp2_with fail
      go_ret
      refine ⟨true, rfl, ⟨fun _ => ?_, fun _ => rfl⟩, hbel⟩
      have h := HP.out
      have := HN1.out
      have := HN2.out
      rwa [List.take_of_length_le (by omega), List.take_of_length_le (by omega)] at h

end Go.Proofs.YtimdioacmojkeabGreatDoor

namespace Go.Proofs.YtimdioacmojkeabGreatDoor
open Go.RowKit
set_option maxRecDepth 4000

theorem some_way (w : World) : Calls Tryz.prog 15 #[] w fun e w' => e = .returned (wayV 16 0 0 0) ∧ Below w.heap.size w w' := by
  have HB : Hid (∀ o, Below w.heap.size w (w.alloc o)) := fun o => (Below.refl _ w).alloc (Nat.le_refl _) o
  go_enter Tryz.func15, Tryz.ntmps15
  go_wp2_with fail
  refine bodyPost_ret (v := wayV 16 0 0 0) ?_ rfl ⟨rfl, HB.out _⟩
  simp [results, asAddr, go_sem]

/-- the small world as it lies in memory -/
def smallM : List Im := [⟨⟨#[47, 100]⟩, 2, 0, 0, ⟨#[]⟩⟩, ⟨⟨#[47, 100, 47, 102]⟩, 1, 0, 0, ⟨#[48, 49, 50, 51, 52, 53, 54, 55, 56, 57, 97, 98, 99, 100, 101, 102, 48, 49, 50, 51, 52, 53, 54, 55, 56, 57, 97, 98, 99, 100, 101, 102, 33]⟩⟩]

theorem smallM_its : its smallM = Wk.small := rfl

theorem some_world (w : World) : Calls Tryz.prog 16 #[] w fun e w' => ∃ a c, e = .returned (.slice (some a) 2 c) ∧ Ims w' (.slice (some a) 2 c) smallM ∧ Below w.heap.size w w' := by
  have HB : Hid (∀ o, Below w.heap.size w (w.alloc o)) := fun o => (Below.refl _ w).alloc (Nat.le_refl _) o
  go_enter Tryz.func16, Tryz.ntmps16
  go_wp2_with fail
  go_ret
  refine ⟨_, _, rfl, ?_, HB.out _⟩
  refine Rx.of_own (base := w.heap.size) (T := 36) imC_length ⟨by rfl, .inr ⟨w.heap.size, 2, _, rfl, Nat.le_refl _, heap_alloc_new w _, Nat.le_refl _, by unfold maxLen; decide, rfl, rfl⟩⟩

/-- Plant at a world that it takes -/
theorem plant_ok {fx mn mx bt : Int} {v : Value} {l : List Im} {w : World} (h : Ims w v l) (hl : l.length ≤ 140737488351232) (hok : ∀ x ∈ l, x.Ok) (hT : Tabs w) {P : List Pk.Bl × Wk.Bs × Int} (hP : P = plantP fx mn mx bt (its l)) (h0 : P.2.2 = 0) :
    Calls Tryz.prog 6 #[wayV fx mn mx bt, v] w fun e w' => ∃ v' bs, e = .returned (.tuple #[v', idV P.2.1, .int .i64 0]) ∧ pl bs = P.1 ∧ P.2.1.length = 8 ∧ w'.ownsRow w.heap.size 42 2 v' bs.length (rowR blC bs) ∧ Bx w' v' bs ∧ BOk bs ∧ bs.length ≤ 1000000 ∧ Below w.heap.size w w' := by
  refine (plant_any fx mn mx bt v l w h hl hok hT).mono ?_
  rintro e w' ⟨v', id, he, h8, hb, _, hk⟩
  rw [← hP, h0] at he hk
  obtain ⟨bs, e1, e2, e3, e4⟩ := hk rfl
  have hF : Wk.Fine (pl bs) := by
    rw [e1, hP]
    exact (Pld.of hok (by rw [← hP]; exact h0)).fine
  refine ⟨v', bs, by rw [he, e2], e1, by rw [← e2]; exact h8, e3, Rx.of_own blC_length e3, bok_fine hF, e4, hb⟩

/-- Reap of whatever blobs with those of a planted world among them -/
theorem reap_ok {v : Value} {bs : List Blb} {root : Wk.Bs} {w : World} (h : Bx w v bs) (hok : BOk bs) (hl : bs.length ≤ 140737488351232) (hr : root.length = 8) (hT : Tabs w) {l : List Im} (hR : Wk.reapP (pl bs) root = (its l, 0)) :
    Calls Tryz.prog 13 #[v, idV root] w fun e w' => ∃ v', e = .returned (.tuple #[v', .int .i64 0]) ∧ Ims w' v' l ∧ w'.ownsRow w.heap.size 36 5 v' l.length (rowR imC l) ∧ l.length ≤ 100 ∧ Below w.heap.size w w' := by
  refine (reap_any v bs root w h hok hl hr hT).mono ?_
  rintro e w' ⟨v', he, hb, _, hk⟩
  rw [hR] at he hk
  obtain ⟨items, e1, e2, e3⟩ := hk rfl
  obtain rfl := its_inj e1
  exact ⟨v', he, Rx.of_own imC_length e2, e2, e3, hb⟩

/-- Reap of what it refuses -/
theorem reap_bad {v : Value} {bs : List Blb} {root : Wk.Bs} {w : World} (h : Bx w v bs) (hok : BOk bs) (hl : bs.length ≤ 140737488351232) (hr : root.length = 8) (hT : Tabs w) {E : Int} (hR : (Wk.reapP (pl bs) root).2 = E) (h0 : E ≠ 0) :
    Calls Tryz.prog 13 #[v, idV root] w fun e w' => e = .returned (.tuple #[.slice none 0 0, .int .i64 E]) ∧ Below w.heap.size w w' := by
  refine (reap_any v bs root w h hok hl hr hT).mono ?_
  rintro e w' ⟨v', he, hb, hk, _⟩
  rw [hR] at he hk
  obtain rfl := hk h0
  exact ⟨he, hb⟩

set_option maxHeartbeats 4000000 in
theorem walked_any (w : World) (hT : Tabs w) : Calls Tryz.prog 5 #[] w fun e w' => e = .returned (.bool true) ∧ Below w.heap.size w w' := by
  have hok : ∀ x ∈ smallM, x.Ok := fun x hx => by
    rcases List.mem_cons.1 hx with rfl | hx
    · exact ⟨by decide, by decide, by decide⟩
    rcases List.mem_cons.1 hx with rfl | hx
    · exact ⟨by decide, by decide, by decide⟩
    exact absurd hx List.not_mem_nil
  have HOK : Hid (∀ x ∈ smallM, x.Ok) := hok
  obtain ⟨P, hP⟩ : ∃ P, P = plantP 16 0 0 0 (its smallM) := ⟨_, rfl⟩
  have HP : Hid (P = plantP 16 0 0 0 (its smallM)) := hP
  have HZ : Hid (P.2.2 = 0) := by show _ = _; rw [hP]; exact small_plantP.1
  have HL : Hid (P.1.length = 4) := by show _ = _; rw [hP]; exact small_plantP.2
  have HF : Hid (Pld 16 0 0 0 smallM P.1 P.2.1) := by
    show Pld _ _ _ _ _ _ _
    rw [hP]
    exact Pld.of hok small_plantP.1
  have hw := some_way
  have hm := some_world
  have HT : Hid (Tabs w) := hT
  clear hok hT hP
  go_enter Tryz.func5, Tryz.ntmps5
  go_wp2_with fail
  refine (hw _).mono ?_
  rintro e w1 ⟨rfl, b1⟩
  have HB1 : Hid (Below w.heap.size w w1) := b1
  clear hw b1
  go_wp2_with fail
  refine (hm _).mono ?_
  rintro e w2 ⟨a2, c2, rfl, x2, b2⟩
  have HB2 : Hid (Below w.heap.size w w2) := HB1.out.trans (b2.mono HB1.out.size)
  have hp := plant_ok x2 (by decide) HOK.out (HT.out.below HB2.out) HP.out HZ.out
  clear b2 x2
  go_wp2_with fail
  refine hp.mono ?_
  rintro e w3 ⟨v3, bs, rfl, hbs, h8, o3, x3, k3, n3, b3⟩
  have HB3 : Hid (Below w.heap.size w w3) := HB2.out.trans (b3.mono HB2.out.size)
  have HX3 : Hid (Bx w3 v3 bs ∧ BOk bs) := ⟨x3, k3⟩
  have HBS : Hid (pl bs = P.1) := hbs
  have hbl : bs.length = 4 := by rw [← pl_length, hbs, HL.out]
  obtain ⟨d0, d1, d2, d3, d4, d5, d6, d7, hid⟩ := eight _ h8
  have hag : idV [d0, d1, d2, d3, d4, d5, d6, d7] = .agg #[.int .u8 (d0.toNat : Int), .int .u8 (d1.toNat : Int), .int .u8 (d2.toNat : Int), .int .u8 (d3.toNat : Int), .int .u8 (d4.toNat : Int), .int .u8 (d5.toNat : Int), .int .u8 (d6.toNat : Int), .int .u8 (d7.toNat : Int)] := rfl
  rw [hid, hag]
  have HID : Hid (P.2.1 = [d0, d1, d2, d3, d4, d5, d6, d7]) := hid
  obtain ⟨W4, hW4⟩ : ∃ W4, W4 = w3.alloc (.cells #[.int .u8 (d0.toNat : Int), .int .u8 (d1.toNat : Int), .int .u8 (d2.toNat : Int), .int .u8 (d3.toNat : Int), .int .u8 (d4.toNat : Int), .int .u8 (d5.toNat : Int), .int .u8 (d6.toNat : Int), .int .u8 (d7.toNat : Int)] 30) := ⟨_, rfl⟩
  have HB4 : Hid (Below w.heap.size w W4) := by rw [hW4]; exact HB3.out.trans (((Below.refl _ w3).alloc (Nat.le_refl _) _).mono HB3.out.size)
  have HX4 : Hid (Bx W4 v3 bs) := HX3.out.1.below (by rw [hW4]; exact (Below.refl _ w3).alloc (Nat.le_refl _) _)
  obtain ⟨a3, c3, e3, _, _⟩ := x3.slice
  subst e3
  rw [hbl] at HX4 ⊢
  have hr := reap_ok (root := [d0, d1, d2, d3, d4, d5, d6, d7]) HX4.out k3 (by omega) rfl (HT.out.below HB4.out) (l := smallM) (Wk.reap_back (by rw [← hid]; exact HF.out.back) (by rw [hbs]; exact HF.out.fine) (by rw [pl_length]; omega) (fun x hx => by rw [hbs]; exact hx))
  rw [hag] at hr
  clear hp b3 h8 o3 n3 hbs hid x3 k3 hag
  have HM4 : Hid (I8 W4 w3.heap.size [d0, d1, d2, d3, d4, d5, d6, d7]) := by rw [hW4]; exact I8.laid (heap_alloc_new w3 _)
  obtain ⟨y0, y1, y2, y3, y4, y5, y6, y7⟩ := HM4.out.cells
  obtain ⟨bk, hbk⟩ : ∃ bk, bk = w3.heap.size := ⟨_, rfl⟩
  go_upto_region 2 with fail
  rw [← hW4]
  rw [← hbk] at y0 y1 y2 y3 y4 y5 y6 y7 ⊢
  clear hW4 hbk HM4
  go_wp2_with fail
  refine hr.mono ?_
  rintro e w5 ⟨v5, rfl, x5, o5, n5, b5⟩
  have HB5 : Hid (Below w.heap.size w w5) := HB4.out.trans (b5.mono HB4.out.size)
  obtain ⟨a5, c5, rfl, _, _⟩ := x5.slice
  have HX5 : Hid (Ims w5 (.slice a5 smallM.length c5) smallM) := x5
  have hln : smallM.length = 2 := rfl
  rw [hln] at HX5 ⊢
  clear hr b5 x5 o5 n5 hln y0 y1 y2 y3 y4 y5 y6 y7
  go_wp2_with fail
  refine (hm _).mono ?_
  rintro e w6 ⟨a6, c6, rfl, x6, b6⟩
  have HB6 : Hid (Below w.heap.size w w6) := HB5.out.trans (b6.mono HB5.out.size)
  have he := equal_items (.slice a5 2 c5) (.slice (some a6) 2 c6) smallM smallM w6 (HX5.out.below b6) x6 (by decide)
  clear b6 x6 hm
  go_wp2_with fail
  refine he.mono ?_
  rintro e w7 ⟨b, rfl, hb, b7⟩
  have HB7 : Hid (Below w.heap.size w w7) := HB6.out.trans (b7.mono HB6.out.size)
  obtain rfl : b = true := hb.2 (by first | exact trivial | rfl)
  clear he b7 hb
  go_wp2_with fail
  go_ret
  exact ⟨rfl, HB7.out⟩

end Go.Proofs.YtimdioacmojkeabGreatDoor

namespace Go.Proofs.YtimdioacmojkeabGreatDoor
open Go.RowKit Go.ChangeShapes Go.WideShapes Go.Deep Go.Joins
set_option maxRecDepth 20000

section
variable {H : Type} {enc : TypeId × Value → H} {w : World} {base : Nat} {spare : Nat → Bool} {held : Bool}
/-- rows of IDs -/
theorem open_idrow {fuel : Nat} {sa : Option Addr} {len cap : Nat} {x : DataW H × List MemPlace} (h : DataW.trod enc Tryz.prog w base spare held fuel 78 [.slice sa len cap] = some x) (hlt : ∀ y ∈ x.2, y.block < w.heap.size) :
    ∃ l : List (List UInt8), Rx 8 idC w (.slice sa len cap) l ∧ ∀ b ∈ l, b.length = 8 := by
  obtain ⟨l, hr, _, hs⟩ := open_rows (α := { x : List UInt8 // x.length = 8 }) (k := 8) (C := fun x => idC x.1) (q := fun _ => True) Tryz.underlying78 ce_id (by omega) (fun t => by rw [idC, List.length_map, t.2])
    (fun n cs x hc ho => by
      obtain ⟨l, hl, hcs, _⟩ := open_id8 hc ho
      exact ⟨⟨l, hl⟩, hcs, trivial⟩) h hlt
  refine ⟨l.map (·.1), ⟨?_, hr.room⟩, fun b hb => ?_⟩
  · rcases hr.at_ with ⟨h1, rfl⟩ | ⟨bk, o, cp, h1, h2, h3⟩
    · exact .inl ⟨h1, rfl⟩
    · refine .inr ⟨bk, o, cp, by rw [List.length_map]; exact h1, h2, fun j t hj r u hu => ?_⟩
      rw [List.getElem?_map] at hj
      cases e : l[j]? with
      | none => rw [e] at hj; simp at hj
      | some q =>
        rw [e] at hj
        obtain rfl : q.1 = t := by simpa using hj
        exact h3 j q e r u hu
  · obtain ⟨q, _, rfl⟩ := List.mem_map.1 hb
    exact q.2
/-- rows of things that have rows themselves -/
theorem open_rw {α : Type} {k : Nat} {R : World → α → List Value → Prop} {T E : TypeId} (hu : Tryz.prog.underlying T = some (.slice E)) (hk : Tryz.prog.cellsOf E = k) (hk0 : 0 < k)
    {q : α → DataW H → Prop} (ho : ∀ n cs (x : DataW H × List MemPlace), cs.length = k → DataW.trod enc Tryz.prog w base spare held n E cs = some x → (∀ y ∈ x.2, y.block < w.heap.size) → ∃ t, R w t cs ∧ q t x.1)
    {fuel : Nat} {sa : Option Addr} {len cap : Nat} {x : DataW H × List MemPlace} (h : DataW.trod enc Tryz.prog w base spare held fuel T [.slice sa len cap] = some x) (hlt : ∀ y ∈ x.2, y.block < w.heap.size) :
    ∃ l : List α, Rw k R w (.slice sa len cap) l ∧ len ≤ cap ∧ cap ≤ 9223372036854775807 ∧ (l = [] ∨ ∃ elems sp, x.1 = .slice elems sp ∧ l.length = elems.length ∧ ∀ t ∈ l, ∃ d ∈ elems, q t d) := by
  rcases open_slice hu h with ⟨hcs, hx⟩ | ⟨a, len', cap', m, n, D, Pl, hcs, _, hl, hm, hmm, hx, hall⟩
  · simp at hcs
    obtain ⟨rfl, rfl, rfl⟩ := hcs
    exact ⟨[], Rw.nil _ _, Nat.le_refl _, by omega, .inl rfl⟩
  · simp at hcs
    obtain ⟨rfl, rfl, rfl⟩ := hcs
    have hlm : len ≤ m := by rw [hmm]; split <;> omega
    rw [hk] at hall
    subst hx
    obtain ⟨L, hL, hT⟩ := choose_row (q := fun i t => ∃ cs, w.cells? base (a.add (i * k)) k = some cs ∧ R w t cs ∧ q t (D i)) len (fun i hi => by
      obtain ⟨cs', h1, h2⟩ := hall i (by omega)
      obtain ⟨_, hlen, _⟩ := World.cells?_some h1
      obtain ⟨t, h3⟩ := ho _ _ _ hlen h2 fun y hy => hlt y (List.mem_append_right _ (List.mem_flatMap.2 ⟨i, List.mem_range.2 (by omega), hy⟩))
      exact ⟨t, cs', h1, h3⟩)
    have hm' : cap ≤ 9223372036854775807 := by unfold maxLen at hm; omega
    refine ⟨L, ?_, hl, hm', .inr ⟨_, _, rfl, by simp [hL], fun t ht => ?_⟩⟩
    rotate_left
    · obtain ⟨i, hi, rfl⟩ := List.getElem_of_mem ht
      obtain ⟨_, _, _, h3⟩ := hT i _ (List.getElem?_eq_getElem hi)
      exact ⟨D i, List.mem_map_of_mem (List.mem_range.2 (by omega)), h3⟩
    by_cases hc0 : len = 0
    · subst hc0
      exact ⟨.inl ⟨⟨_, _, rfl⟩, List.length_eq_zero_iff.1 hL⟩⟩
    · have hcell : ∀ j t, L[j]? = some t → ∃ cs : List Value, cs.length = k ∧ R w t cs ∧ ∀ r v, cs[r]? = some v → w.cell? (a.add (j * k + r)) = some v := fun j t hj => by
        obtain ⟨cs, h1, h2, _⟩ := hT j t hj
        obtain ⟨_, hlen, hc⟩ := World.cells?_some h1
        refine ⟨cs, hlen, h2, fun r v hv => ?_⟩
        have hr : r < k := by
          have := (List.getElem?_eq_some_iff.1 hv).1
          omega
        have := hc r hr
        rw [add_add, hv] at this
        exact this
      obtain ⟨b, off, spot⟩ := a
      have hspot : spot = none := by
        obtain ⟨cs, c1, _, c3⟩ := hcell 0 _ (List.getElem?_eq_getElem (by omega))
        have h0 : cs[0]? = some (cs[0]'(by omega)) := List.getElem?_eq_getElem _
        simpa [Addr.add] using World.cell?_spot (c3 0 _ h0)
      subst hspot
      have hpos : 0 < m * k := Nat.mul_pos (by omega) hk0
      have hbW : b < w.heap.size := hlt (.cell b off) (List.mem_append_left _ (MemPlace.mem_row.2 ⟨0, by rw [hk]; exact hpos, by simp⟩))
      refine ⟨.inr ⟨b, off, cap, by rw [hL], by omega, hbW, fun j t hj => ?_⟩⟩
      obtain ⟨cs, c1, c2, c3⟩ := hcell j t hj
      refine ⟨cs, c1, c2, fun r u hu => ?_⟩
      have e := c3 r u hu
      rw [add_plain] at e
      rw [Nat.add_assoc]
      exact e
theorem trod_struct7 {P : Program} {t : TypeId} {f0 f1 f2 f3 f4 f5 f6 : Field} {fuel : Nat} {cs : List Value} {x : DataW H × List MemPlace} (ht : P.underlying t = some (.struct #[f0, f1, f2, f3, f4, f5, f6])) (h : DataW.trod enc P w base spare held fuel t cs = some x) :
    ∃ y0 y1 y2 y3 y4 y5 y6 n, x = (.agg [y0.1, y1.1, y2.1, y3.1, y4.1, y5.1, y6.1], y0.2 ++ (y1.2 ++ (y2.2 ++ (y3.2 ++ (y4.2 ++ (y5.2 ++ y6.2)))))) ∧ cs.length = P.cellsOf t ∧ DataW.trod enc P w base spare held n f0.type ((cs.drop f0.offset).take (P.cellsOf f0.type)) = some y0 ∧
      DataW.trod enc P w base spare held n f1.type ((cs.drop f1.offset).take (P.cellsOf f1.type)) = some y1 ∧ DataW.trod enc P w base spare held n f2.type ((cs.drop f2.offset).take (P.cellsOf f2.type)) = some y2 ∧
      DataW.trod enc P w base spare held n f3.type ((cs.drop f3.offset).take (P.cellsOf f3.type)) = some y3 ∧ DataW.trod enc P w base spare held n f4.type ((cs.drop f4.offset).take (P.cellsOf f4.type)) = some y4 ∧
      DataW.trod enc P w base spare held n f5.type ((cs.drop f5.offset).take (P.cellsOf f5.type)) = some y5 ∧ DataW.trod enc P w base spare held n f6.type ((cs.drop f6.offset).take (P.cellsOf f6.type)) = some y6 := by
  obtain ⟨xs, n, _, rfl, hl, hlen, hf⟩ := DataW.trod_struct ht h
  match xs, hlen with
  | [y0, y1, y2, y3, y4, y5, y6], _ => exact ⟨y0, y1, y2, y3, y4, y5, y6, n, by simp, hl, by simpa using hf 0 f0 rfl, by simpa using hf 1 f1 rfl, by simpa using hf 2 f2 rfl, by simpa using hf 3 f3 rfl, by simpa using hf 4 f4 rfl, by simpa using hf 5 f5 rfl, by simpa using hf 6 f6 rfl⟩
theorem nd_fields : ∃ f0 f1 f2 f3 f4 f5 f6, Tryz.prog.underlying 80 = some (.struct #[f0, f1, f2, f3, f4, f5, f6]) ∧ f0.type = 9 ∧ f0.offset = 0 ∧ f1.type = 3 ∧ f1.offset = 1 ∧ f2.type = 3 ∧ f2.offset = 2 ∧ f3.type = 3 ∧ f3.offset = 3 ∧ f4.type = 3 ∧ f4.offset = 4 ∧ f5.type = 78 ∧ f5.offset = 5 ∧ f6.type = 9 ∧ f6.offset = 6 :=
  ⟨_, _, _, _, _, _, _, Tryz.underlying80, rfl, rfl, rfl, rfl, rfl, rfl, rfl, rfl, rfl, rfl, rfl, rfl, rfl, rfl⟩
theorem open_node {n : Nat} {cs : List Value} {x : DataW H × List MemPlace} (hc : cs.length = 7) (h : DataW.trod enc Tryz.prog w base spare held n 80 cs = some x) (hlt : ∀ y ∈ x.2, y.block < w.heap.size) : ∃ t : Nod, NdR w t cs ∧ ∃ r, x.1 = .agg (.lit (.string t.name.data.toList) :: r) := by
  obtain ⟨f0, f1, f2, f3, f4, f5, f6, hu, t0, o0, t1, o1, t2, o2, t3, o3, t4, o4, t5, o5, t6, o6⟩ := nd_fields
  obtain ⟨y0, y1, y2, y3, y4, y5, y6, m, hx, _, g0, g1, g2, g3, g4, g5, g6⟩ := trod_struct7 hu h
  have ks : Tryz.prog.cellsOf 9 = 1 := by kernel_rfl
  have kr : Tryz.prog.cellsOf 78 = 1 := by kernel_rfl
  match cs, hc with
  | [v0, v1, v2, v3, v4, v5, v6], _ =>
    simp only [t0, o0, t1, o1, ce_int, t2, o2, t3, o3, t4, o4, t5, o5, t6, o6, ks, kr] at g0 g1 g2 g3 g4 g5 g6
    obtain ⟨b0, c0, x0, s0⟩ := DataW.trod_string Tryz.underlying9 g0
    obtain ⟨i1, c1, _, w1⟩ := DataW.trod_int Tryz.underlying3 g1
    obtain ⟨i2, c2, _, w2⟩ := DataW.trod_int Tryz.underlying3 g2
    obtain ⟨i3, c3, _, w3⟩ := DataW.trod_int Tryz.underlying3 g3
    obtain ⟨i4, c4, _, w4⟩ := DataW.trod_int Tryz.underlying3 g4
    obtain ⟨b6, c6, _, s6⟩ := DataW.trod_string Tryz.underlying9 g6
    obtain rfl : v0 = .string b0 := by simpa using c0
    obtain rfl : v1 = .int .i64 i1 := by simpa using c1
    obtain rfl : v2 = .int .i64 i2 := by simpa using c2
    obtain rfl : v3 = .int .i64 i3 := by simpa using c3
    obtain rfl : v4 = .int .i64 i4 := by simpa using c4
    obtain rfl : v6 = .string b6 := by simpa using c6
    have g5 : DataW.trod enc Tryz.prog w base spare held m 78 [v5] = some y5 := g5
    obtain ⟨sa, len, cap, rfl⟩ : ∃ sa len cap, v5 = .slice sa len cap := by
      rcases open_slice Tryz.underlying78 g5 with ⟨hcs, _⟩ | ⟨a, len', cap', _, _, _, _, hcs, _⟩
      · exact ⟨_, _, _, by simpa using hcs⟩
      · exact ⟨_, _, _, by simpa using hcs⟩
    obtain ⟨l, hl, h8⟩ := open_idrow g5 fun y hy => hlt y (by rw [hx]; simp [hy])
    unfold maxLen at s0 s6
    exact ⟨⟨b0, i1, i2, i3, i4, l, b6⟩, ⟨_, rfl, hl, w1, w2, w3, w4, s0, s6, h8⟩, _, by rw [hx, x0]⟩
theorem ce_nd : Tryz.prog.cellsOf 80 = 7 := by kernel_rfl
theorem open_nds {fuel : Nat} {sa : Option Addr} {len cap : Nat} {x : DataW H × List MemPlace} (h : DataW.trod enc Tryz.prog w base spare held fuel 77 [.slice sa len cap] = some x) (hlt : ∀ y ∈ x.2, y.block < w.heap.size) :
    ∃ l : List Nod, Nds w (.slice sa len cap) l ∧ len ≤ cap ∧ cap ≤ 9223372036854775807 ∧ (l = [] ∨ ∃ elems sp, x.1 = .slice elems sp ∧ l.length = elems.length ∧ ∀ t ∈ l, ∃ d ∈ elems, ∃ r, d = .agg (.lit (.string t.name.data.toList) :: r)) :=
  open_rw Tryz.underlying77 ce_nd (by omega) (fun _ _ _ => open_node) h hlt
end
end Go.Proofs.YtimdioacmojkeabGreatDoor

namespace Go.Proofs.YtimdioacmojkeabGreatDoor
open Go.RowKit Go.ChangeShapes Go.WideShapes Go.Deep Go.Joins
set_option maxRecDepth 20000

section
variable {H : Type} {enc : TypeId × Value → H} {w : World} {base : Nat} {spare : Nat → Bool} {held : Bool}

def blobD (H : Type) (b : Blb) : DataW H := .agg [.lit (.int .i64 b.kind), .lit (.string b.bytes.data.toList)]

theorem open_blobv {r : Reach} {b0 : Nat} {v : Value} {d : DataW H} {p : List MemPlace} (hv : Value.okWide Tryz.prog w r b0 42 v) (h : DataW.Trod enc Tryz.prog w base spare held 42 v d p) :
    ∃ b : Blb, v = blV b ∧ d = blobD H b ∧ p = [] ∧ (Lit.int .i64 b.kind).wf = true ∧ b.bytes.size ≤ 9223372036854775807 := by
  obtain ⟨v0, v1, y0, y1, n, rfl, rfl, rfl, h0, h1⟩ := open_agg2 Tryz.underlying42 (by kernel_rfl) (by kernel_rfl) hv h
  obtain ⟨a, ha, hy0, w0⟩ := DataW.trod_int Tryz.underlying3 h0
  obtain ⟨s, hs, hy1, w1⟩ := DataW.trod_string Tryz.underlying9 h1
  obtain rfl : v0 = .int .i64 a := by simpa using ha
  obtain rfl : v1 = .string s := by simpa using hs
  subst hy0 hy1
  exact ⟨⟨a, s⟩, rfl, rfl, rfl, w0, by unfold maxLen at w1; exact w1⟩

theorem shut_blobv {b : Blb} (h : (Lit.int .i64 b.kind).wf = true ∧ b.bytes.size ≤ 9223372036854775807) : DataW.Trod enc Tryz.prog w base spare held 42 (blV b) (blobD H b) [] :=
  shut_agg2 (y0 := (.lit (.int .i64 b.kind), [])) (y1 := (.lit (.string b.bytes.data.toList), [])) Tryz.underlying42 (by kernel_rfl) (by kernel_rfl) ⟨_, trod_int_mk 0 Tryz.underlying3 h.1⟩ ⟨1, by have : b.bytes.size ≤ maxLen := h.2; simp [DataW.trod, Tryz.underlying9, this]⟩

theorem sized_blobv {ts : List TypeId} {ds : List (DataW H)} (h : (DataW.weightsEach Tryz.prog ts ds).all (· ≤ reachBytes) = true) {j : Nat} {b : Blb} (ht : ts[j]? = some 42) (hd : ds[j]? = some (blobD H b)) : b.bytes.size ≤ 140737488351232 := by
  obtain ⟨f0, f1, hu, _⟩ := bl_fields
  have := of_decide_eq_true (List.all_eq_true.1 h _ (DataW.weights_mem_each ht hd b.bytes.data.toList.length (by simp [blobD, DataW.weights, DataW.weightsEach, hu])))
  simp only [reachBytes] at this
  rw [Lib.size_eq]; exact this

def wayD (H : Type) (fx mn mx bt : Int) : DataW H := .agg [.lit (.int .i64 fx), .agg [.lit (.int .i64 mn), .lit (.int .i64 mx), .lit (.int .i64 bt)]]

def WyOk (fx mn mx bt : Int) : Prop := (Lit.int .i64 fx).wf = true ∧ (Lit.int .i64 mn).wf = true ∧ (Lit.int .i64 mx).wf = true ∧ (Lit.int .i64 bt).wf = true

theorem wy_fields : ∃ f0 f1, Tryz.prog.underlying 25 = some (.struct #[f0, f1]) ∧ f0.type = 3 ∧ f0.offset = 0 ∧ f1.type = 23 ∧ f1.offset = 1 :=
  ⟨_, _, Tryz.underlying25, rfl, rfl, rfl, rfl⟩

theorem cu_fields : ∃ f0 f1 f2, Tryz.prog.underlying 23 = some (.struct #[f0, f1, f2]) ∧ f0.type = 3 ∧ f0.offset = 0 ∧ f1.type = 3 ∧ f1.offset = 1 ∧ f2.type = 3 ∧ f2.offset = 2 :=
  ⟨_, _, _, Tryz.underlying23, rfl, rfl, rfl, rfl, rfl, rfl⟩

theorem ce_way : Tryz.prog.cellsOf 25 = 4 := by kernel_rfl

theorem ce_cut : Tryz.prog.cellsOf 23 = 3 := by kernel_rfl

theorem wk_struct2 {P : Program} {t : TypeId} {f0 f1 : Field} {fuel : Nat} {cs : List Value} {x : DataW H × List MemPlace} (ht : P.underlying t = some (.struct #[f0, f1])) (h : DataW.trod enc P w base spare held fuel t cs = some x) :
    ∃ y0 y1 n, x = (.agg [y0.1, y1.1], y0.2 ++ y1.2) ∧ cs.length = P.cellsOf t ∧ DataW.trod enc P w base spare held n f0.type ((cs.drop f0.offset).take (P.cellsOf f0.type)) = some y0 ∧ DataW.trod enc P w base spare held n f1.type ((cs.drop f1.offset).take (P.cellsOf f1.type)) = some y1 := by
  obtain ⟨xs, n, _, rfl, hl, hlen, hf⟩ := DataW.trod_struct ht h
  match xs, hlen with
  | [y0, y1], _ => exact ⟨y0, y1, n, by simp, hl, by simpa using hf 0 f0 rfl, by simpa using hf 1 f1 rfl⟩

theorem wk_struct5 {P : Program} {t : TypeId} {f0 f1 f2 f3 f4 : Field} {fuel : Nat} {cs : List Value} {x : DataW H × List MemPlace} (ht : P.underlying t = some (.struct #[f0, f1, f2, f3, f4])) (h : DataW.trod enc P w base spare held fuel t cs = some x) :
    ∃ y0 y1 y2 y3 y4 n, x = (.agg [y0.1, y1.1, y2.1, y3.1, y4.1], y0.2 ++ (y1.2 ++ (y2.2 ++ (y3.2 ++ y4.2)))) ∧ cs.length = P.cellsOf t ∧ DataW.trod enc P w base spare held n f0.type ((cs.drop f0.offset).take (P.cellsOf f0.type)) = some y0 ∧
      DataW.trod enc P w base spare held n f1.type ((cs.drop f1.offset).take (P.cellsOf f1.type)) = some y1 ∧ DataW.trod enc P w base spare held n f2.type ((cs.drop f2.offset).take (P.cellsOf f2.type)) = some y2 ∧
      DataW.trod enc P w base spare held n f3.type ((cs.drop f3.offset).take (P.cellsOf f3.type)) = some y3 ∧ DataW.trod enc P w base spare held n f4.type ((cs.drop f4.offset).take (P.cellsOf f4.type)) = some y4 := by
  obtain ⟨xs, n, _, rfl, hl, hlen, hf⟩ := DataW.trod_struct ht h
  match xs, hlen with
  | [y0, y1, y2, y3, y4], _ => exact ⟨y0, y1, y2, y3, y4, n, by simp, hl, by simpa using hf 0 f0 rfl, by simpa using hf 1 f1 rfl, by simpa using hf 2 f2 rfl, by simpa using hf 3 f3 rfl, by simpa using hf 4 f4 rfl⟩

theorem open_way {r : Reach} {b0 : Nat} {v : Value} {d : DataW H} {p : List MemPlace} (hv : Value.okWide Tryz.prog w r b0 25 v) (h : DataW.Trod enc Tryz.prog w base spare held 25 v d p) :
    ∃ fx mn mx bt : Int, v = wayV fx mn mx bt ∧ d = wayD H fx mn mx bt ∧ p = [] ∧ WyOk fx mn mx bt := by
  obtain ⟨cs, rfl, hsz⟩ := okWide_struct Tryz.underlying25 hv
  rw [ce_way] at hsz
  obtain ⟨fuel, hf⟩ := h
  obtain ⟨f0, f1, hu, t0, o0, t1, o1⟩ := wy_fields
  obtain ⟨g0, g1, g2, hv2, s0, q0, s1, q1, s2, q2⟩ := cu_fields
  obtain ⟨y0, y1, n, hx, _, h0, h1⟩ := wk_struct2 hu hf
  obtain ⟨l, rfl⟩ : ∃ l : List Value, cs = l.toArray := ⟨cs.toList, rfl⟩
  have hl : l.length = 4 := by simpa using hsz
  match l, hl with
  | [v0, v1, v2, v3], _ =>
    simp only [t0, o0, t1, o1, ce_int, ce_cut, Value.cells] at h0 h1
    have h1 : DataW.trod enc Tryz.prog w base spare held n 23 [v1, v2, v3] = some y1 := h1
    obtain ⟨z0, z1, z2, m, hy1, _, k0, k1, k2⟩ := trod_struct3 hv2 h1
    simp only [s0, q0, s1, q1, s2, q2, ce_int] at k0 k1 k2
    have h0 : DataW.trod enc Tryz.prog w base spare held n 3 [v0] = some y0 := h0
    have k0 : DataW.trod enc Tryz.prog w base spare held m 3 [v1] = some z0 := k0
    have k1 : DataW.trod enc Tryz.prog w base spare held m 3 [v2] = some z1 := k1
    have k2 : DataW.trod enc Tryz.prog w base spare held m 3 [v3] = some z2 := k2
    obtain ⟨a, c0, x0, w0⟩ := DataW.trod_int Tryz.underlying3 h0
    obtain ⟨b, c1, x1, w1⟩ := DataW.trod_int Tryz.underlying3 k0
    obtain ⟨c, c2, x2, w2⟩ := DataW.trod_int Tryz.underlying3 k1
    obtain ⟨e, c3, x3, w3⟩ := DataW.trod_int Tryz.underlying3 k2
    obtain rfl : v0 = .int .i64 a := by simpa using c0
    obtain rfl : v1 = .int .i64 b := by simpa using c1
    obtain rfl : v2 = .int .i64 c := by simpa using c2
    obtain rfl : v3 = .int .i64 e := by simpa using c3
    refine ⟨a, b, c, e, rfl, ?_, ?_, w0, w1, w2, w3⟩
    · have := congrArg Prod.fst hx
      rw [show d = _ from this, hy1, x0, x1, x2, x3]; rfl
    · have := congrArg Prod.snd hx
      rw [show p = _ from this, hy1, x0, x1, x2, x3]; rfl

theorem shut_way {fx mn mx bt : Int} (h : WyOk fx mn mx bt) : DataW.Trod enc Tryz.prog w base spare held 25 (wayV fx mn mx bt) (wayD H fx mn mx bt) [] := by
  obtain ⟨h0, h1, h2, h3⟩ := h
  obtain ⟨f0, f1, hu, t0, o0, t1, o1⟩ := wy_fields
  obtain ⟨g0, g1, g2, hv2, s0, q0, s1, q1, s2, q2⟩ := cu_fields
  have hc : DataW.trod enc Tryz.prog w base spare held 2 23 [.int .i64 mn, .int .i64 mx, .int .i64 bt] = some (.agg [.lit (.int .i64 mn), .lit (.int .i64 mx), .lit (.int .i64 bt)], []) := by
    have := trod_struct3_mk (enc := enc) (w := w) (base := base) (spare := spare) (held := held) (n := 1) (cs := [.int .i64 mn, .int .i64 mx, .int .i64 bt]) (y0 := (.lit (.int .i64 mn), [])) (y1 := (.lit (.int .i64 mx), [])) (y2 := (.lit (.int .i64 bt), [])) hv2 (by rw [ce_cut]; rfl)
      (by rw [s0, q0, ce_int]; exact trod_int_mk 0 Tryz.underlying3 h1) (by rw [s1, q1, ce_int]; exact trod_int_mk 0 Tryz.underlying3 h2) (by rw [s2, q2, ce_int]; exact trod_int_mk 0 Tryz.underlying3 h3)
    exact this
  refine ⟨3, ?_⟩
  have := trod_struct_mk (enc := enc) (w := w) (base := base) (spare := spare) (held := held) (n := 2) (t := 25) (cs := [.int .i64 fx, .int .i64 mn, .int .i64 mx, .int .i64 bt]) (xs := [(.lit (.int .i64 fx), []), (.agg [.lit (.int .i64 mn), .lit (.int .i64 mx), .lit (.int .i64 bt)], [])]) hu (by rw [ce_way]; rfl)
    (by
      have e0 : DataW.trod enc Tryz.prog w base spare held 2 3 [.int .i64 fx] = some (.lit (.int .i64 fx), []) := trod_int_mk 1 Tryz.underlying3 h0
      simp [t0, o0, t1, o1, ce_int, ce_cut, e0, hc])
  exact this

def itD (H : Type) (x : Im) : DataW H := .agg [.lit (.string x.path.data.toList), .lit (.int .i64 x.kind), .lit (.int .i64 x.mode), .lit (.int .i64 x.time), .lit (.string x.bytes.data.toList)]

theorem it_fields : ∃ f0 f1 f2 f3 f4, Tryz.prog.underlying 36 = some (.struct #[f0, f1, f2, f3, f4]) ∧ f0.type = 9 ∧ f0.offset = 0 ∧ f1.type = 3 ∧ f1.offset = 1 ∧ f2.type = 3 ∧ f2.offset = 2 ∧ f3.type = 3 ∧ f3.offset = 3 ∧ f4.type = 9 ∧ f4.offset = 4 :=
  ⟨_, _, _, _, _, Tryz.underlying36, rfl, rfl, rfl, rfl, rfl, rfl, rfl, rfl, rfl, rfl⟩

theorem ce_it : Tryz.prog.cellsOf 36 = 5 := by kernel_rfl

/-- what is sure of an item that comes in -/
def ImIn (x : Im) : Prop := (Lit.int .i64 x.kind).wf = true ∧ (Lit.int .i64 x.mode).wf = true ∧ (Lit.int .i64 x.time).wf = true

theorem open_item {n : Nat} {cs : List Value} {x : DataW H × List MemPlace} (hc : cs.length = 5) (h : DataW.trod enc Tryz.prog w base spare held n 36 cs = some x) : ∃ t : Im, (cs = imC t ∧ ImIn t) ∧ x.1 = itD H t := by
  obtain ⟨f0, f1, f2, f3, f4, hu, t0, o0, t1, o1, t2, o2, t3, o3, t4, o4⟩ := it_fields
  obtain ⟨y0, y1, y2, y3, y4, m, hx, _, g0, g1, g2, g3, g4⟩ := wk_struct5 hu h
  have ks : Tryz.prog.cellsOf 9 = 1 := by kernel_rfl
  match cs, hc with
  | [v0, v1, v2, v3, v4], _ =>
    simp only [t0, o0, t1, o1, ce_int, t2, o2, t3, o3, t4, o4, ks] at g0 g1 g2 g3 g4
    obtain ⟨b0, c0, x0, s0⟩ := DataW.trod_string Tryz.underlying9 g0
    obtain ⟨i1, c1, x1, w1⟩ := DataW.trod_int Tryz.underlying3 g1
    obtain ⟨i2, c2, x2, w2⟩ := DataW.trod_int Tryz.underlying3 g2
    obtain ⟨i3, c3, x3, w3⟩ := DataW.trod_int Tryz.underlying3 g3
    obtain ⟨b4, c4, x4, s4⟩ := DataW.trod_string Tryz.underlying9 g4
    obtain rfl : v0 = .string b0 := by simpa using c0
    obtain rfl : v1 = .int .i64 i1 := by simpa using c1
    obtain rfl : v2 = .int .i64 i2 := by simpa using c2
    obtain rfl : v3 = .int .i64 i3 := by simpa using c3
    obtain rfl : v4 = .string b4 := by simpa using c4
    exact ⟨⟨b0, i1, i2, i3, b4⟩, ⟨rfl, w1, w2, w3⟩, by rw [hx, x0, x1, x2, x3, x4]; rfl⟩

theorem open_items {fuel : Nat} {sa : Option Addr} {len cap : Nat} {x : DataW H × List MemPlace} (h : DataW.trod enc Tryz.prog w base spare held fuel 26 [.slice sa len cap] = some x) (hlt : ∀ y ∈ x.2, y.block < w.heap.size) :
    ∃ l : List Im, Ims w (.slice sa len cap) l ∧ (∀ t ∈ l, ImIn t) ∧ (l = [] ∨ ∃ elems sp, x.1 = .slice elems sp ∧ l.length = elems.length ∧ ∀ t ∈ l, itD H t ∈ elems) := by
  obtain ⟨l, hl, h1, h2, h3⟩ := open_rw (R := fun _ (t : Im) c => c = imC t ∧ ImIn t) (q := fun t d => d = itD H t) Tryz.underlying26 ce_it (by omega) (fun n cs x hc hx _ => by
    obtain ⟨t, a, b⟩ := open_item hc hx
    exact ⟨t, a, b⟩) h hlt
  have hin : ∀ t ∈ l, ImIn t := by
    obtain ⟨hat⟩ := hl
    rcases hat with ⟨_, hn⟩ | ⟨bk, o, cp, _, _, _, hc⟩
    · rw [hn]; exact fun t ht => absurd ht List.not_mem_nil
    · intro t ht
      obtain ⟨j, hj, rfl⟩ := List.getElem_of_mem ht
      obtain ⟨c, _, ⟨_, q⟩, _⟩ := hc j _ (List.getElem?_eq_getElem hj)
      exact q
  refine ⟨l, ?_, hin, h3.imp id fun ⟨elems, sp, a, b, c⟩ => ⟨elems, sp, a, b, fun t ht => ?_⟩⟩
  · obtain ⟨hat⟩ := hl
    rcases hat with ⟨⟨a, c, e⟩, hn⟩ | ⟨bk, o, cp, e, hle, hbk, hc⟩
    · cases e
      exact ⟨.inl ⟨⟨_, _, rfl⟩, hn⟩, _, _, _, rfl, h1, h2⟩
    · cases e
      refine ⟨.inr ⟨bk, o, cap, rfl, hbk, fun j t hj r u hu => ?_⟩, _, _, _, rfl, h1, h2⟩
      obtain ⟨cs, _, ⟨rfl, _⟩, q⟩ := hc j t hj
      exact q r u hu
  · obtain ⟨d, hd, rfl⟩ := c t ht
    exact hd

theorem weights_all {P : Program} {e : TypeId} : ∀ {elems : List (DataW H)} {d : DataW H}, d ∈ elems → ∀ n ∈ d.weights P e, n ∈ DataW.weightsAll P e elems
  | [], d, h, _, _ => absurd h List.not_mem_nil
  | x :: l, d, h, n, hn => by
    rw [DataW.weightsAll, List.mem_append]
    rcases List.mem_cons.1 h with rfl | h
    · exact .inl hn
    · exact .inr (weights_all h n hn)

theorem sized_items {ts : List TypeId} {ds : List (DataW H)} (h : (DataW.weightsEach Tryz.prog ts ds).all (· ≤ reachBytes) = true) {j : Nat} {l : List Im} {elems sp : List (DataW H)} (ht : ts[j]? = some 26) (hd : ds[j]? = some (.slice elems sp)) (hm : ∀ t ∈ l, itD H t ∈ elems) (hin : ∀ t ∈ l, ImIn t) : ∀ t ∈ l, t.Ok := by
  intro t htl
  obtain ⟨f0, f1, f2, f3, f4, hu, e0, _, e1, _, e2, _, e3, _, e4, _⟩ := it_fields
  have hall : ∀ n ∈ (itD H t).weights Tryz.prog 36, n ≤ reachBytes := fun n hn => by
    have := List.all_eq_true.1 h n (DataW.weights_mem_each ht hd n (by
      rw [DataW.weights, Tryz.underlying26]
      exact List.mem_cons_of_mem _ (List.mem_append_left _ (weights_all (hm t htl) n hn))))
    simpa using this
  have hp := hall t.path.data.toList.length (by simp [itD, DataW.weights, DataW.weightsEach, hu])
  have hb := hall t.bytes.data.toList.length (by simp [itD, DataW.weights, DataW.weightsEach, hu])
  simp only [reachBytes] at hp hb
  exact ⟨by rw [Lib.size_eq]; exact hp, by rw [Lib.size_eq]; exact hb, (hin t htl).2.2⟩

theorem in_bulk {elems : List (DataW H)} {d : DataW H} (h : d ∈ elems) : Rows.uptoBulk d ≤ Rows.uptoBulkAll elems := by
  induction elems with
  | nil => exact (List.not_mem_nil h).elim
  | cons e l ih =>
    rw [Rows.uptoBulkAll]
    rcases List.mem_cons.1 h with rfl | h
    · omega
    · have := ih h; omega

theorem bulk_items {l : List Im} {elems : List (DataW H)} (h : ∀ t ∈ l, itD H t ∈ elems) : ∀ x ∈ l, x.path.size ≤ Rows.uptoBulkAll elems ∧ x.bytes.size ≤ Rows.uptoBulkAll elems := fun x hx => by
  have h1 := in_bulk (h x hx)
  have h2 : x.path.data.toList.length + x.bytes.data.toList.length ≤ Rows.uptoBulk (itD H x) := by
    simp only [itD, Rows.uptoBulk, Rows.uptoBulkAll]
    omega
  rw [Lib.size_eq, Lib.size_eq]
  omega

end

end Go.Proofs.YtimdioacmojkeabGreatDoor

namespace Go.Proofs.YtimdioacmojkeabGreatDoor
open Go.RowKit

theorem first_laid : Rows.laid_unicode_utf8_first = Lib.firstData := by kernel_rfl
theorem accept_laid : (Rows.laid_unicode_utf8_acceptRanges : DataW Unit) = Lib.acceptData := by kernel_rfl
theorem laid_plain {P : Program} {l : List (String × DataW Unit)} {W : World} (h : laidMetH P l W) (hp : (l.filter fun x => x.2.handleName?.isSome) = []) : laidMet P l W := by
  unfold laidMetH at h
  rw [hp] at h
  exact h

/-- the two tables, off what the rows list -/
theorem tabs_of {W : World} (hL : laidMetH Tryz.prog Rows.walkPathRow.laid W) : Tabs W := by
  have hM := laid_plain hL (by kernel_rfl)
  refine utf8Tabs_of_readsT (P := Tryz.prog) (ρ := Tryz.laysValid_ren) (U8Types.of196 Tryz.laysValid) ⟨by kernel_rfl, by kernel_rfl, by kernel_rfl, by kernel_rfl, by kernel_rfl, by kernel_rfl, by kernel_rfl⟩ ?_ ?_
  · rw [← first_laid]
    exact Lib.laidMet.reads hM (by simp [Rows.walkPathRow])
  · rw [← accept_laid]
    exact Lib.laidMet.reads hM (by simp [Rows.walkPathRow])
/-- a text of a list is no longer than the list's bulk -/
theorem bulk_strs {H : Type} : ∀ (l : List ByteArray), ∀ s ∈ l, s.size ≤ Rows.uptoBulkAll (ChangeShapes.strs l : List (DataW H))
  | [], s, hs => (List.not_mem_nil hs).elim
  | t :: l, s, hs => by
    show _ ≤ Rows.uptoBulkAll (DataW.lit (.string t.data.toList) :: (ChangeShapes.strs l : List (DataW H)))
    rw [Rows.uptoBulkAll, Rows.uptoBulk]
    rcases List.mem_cons.1 hs with rfl | hs
    · rw [Lib.size_eq]; omega
    · have := bulk_strs (H := H) l s hs; omega
end Go.Proofs.YtimdioacmojkeabGreatDoor
