/-
  The walk of lumkeep.ChunkWhole: it returns true.
-/
import Derived.Test.YtdalpicpkandcaaCkCut
import Derived.Test.YtdalpicpkandcaaCkFixed
import Derived.Test.YtdalpicpkandcaaCkJoin
namespace Go.Proofs.Ytdalpicpkandcaa
open Go.RowKit

theorem own_slice {base : Nat} {V : World} {l : List Ck.Bs} {v : Value} (h : V.ownsRow base 9 1 v l.length (l.map Sv)) : ∃ a c, v = .slice a l.length c := by
  rcases h.2 with ⟨rfl, h0⟩ | ⟨g, cap, _, rfl, _⟩
  · exact ⟨none, 0, by rw [h0]⟩
  · exact ⟨_, _, rfl⟩
set_option maxHeartbeats 2000000 in
theorem chunkWhole_ok (mn mx bt n kf : Int) (s : ByteArray) (w : World) (A0 F L : List Ck.Bs) (hA0 : A0.length = 2) (hF : F.length ≤ 4096)
    (e0 : ∀ V, Calls Try.prog 9 #[.int .i64 2, .string ⟨#[97, 98, 99]⟩] V fun e w' => ∃ v, e = .returned (.tuple #[v, .int .i64 0]) ∧ w'.ownsRow V.heap.size 9 1 v A0.length (A0.map Sv) ∧ Below V.heap.size V w')
    (e1 : ∀ V, Calls Try.prog 11 #[cutV mn mx bt, .string s] V fun e w' => ∃ v, e = .returned (.tuple #[v, .int .i64 0]) ∧ w'.ownsRow V.heap.size 9 1 v L.length (L.map Sv) ∧ Below V.heap.size V w')
    (e2 : ∀ V, Calls Try.prog 9 #[.int .i64 n, .string s] V fun e w' => ∃ v, e = .returned (.tuple #[v, .int .i64 kf]) ∧ w'.ownsRow V.heap.size 9 1 v F.length (F.map Sv) ∧ Below V.heap.size V w')
    (hL : L.length ≤ 4096) (hLs : L.flatten = s.data.toList) (hs : s.size ≤ 4096) (hPL : ∀ j (h : j < L.length), 0 < L[j].length ∧ (L[j].length : Int) ≤ mx ∧ (j + 1 < L.length → mn ≤ (L[j].length : Int)))
    (hP : (kf ≠ 0 ∧ F = []) ∨ (kf = 0 ∧ F.flatten = s.data.toList ∧ s.size ≤ 4096 ∧ ∀ j (h : j < F.length), 0 < F[j].length ∧ (F[j].length : Int) ≤ n ∧ (j + 1 < F.length → n ≤ (F[j].length : Int)))) :
    Calls Try.prog 6 #[cutV mn mx bt, .int .i64 n, .string s] w fun e w' => e = .returned (.bool true) ∧ Below w.heap.size w w' := by
  unfold cutV at e1 ⊢
  obtain ⟨W4, hW4⟩ : ∃ W4, W4 = w.alloc (Obj.cells #[Value.int IntKind.i64 mn, Value.int IntKind.i64 mx, Value.int IntKind.i64 bt] 23) := ⟨_, rfl⟩
  have HC : Hid (CutAt W4 w.heap.size mn mx bt) := by rw [hW4]; exact World.alloc_heap_new w _
  have HB : Hid (Below w.heap.size w W4) := by rw [hW4]; exact (Below.refl _ w).alloc (Nat.le_refl _) _
  have HP : Hid ((kf ≠ 0 ∧ F = []) ∨ (kf = 0 ∧ F.flatten = s.data.toList ∧ s.size ≤ 4096 ∧ ∀ j (h : j < F.length), 0 < F[j].length ∧ (F[j].length : Int) ≤ n ∧ (j + 1 < F.length → n ≤ (F[j].length : Int)))) := hP
  clear hP
  go_enter Try.func6, Try.ntmps6
  go_wp2_with fail
  rw [← hW4]
  refine (e0 _).mono ?_
  rintro e w1 ⟨v0, rfl, o0, hb1⟩
  obtain ⟨a0, c0', rfl⟩ := own_slice o0
  have hc1 : CutAt w1 w.heap.size mn mx bt := HC.out.kept (Kept.of_below (p := fun _ => True) hb1) trivial
  have c0 := hc1.c0
  have c1 := hc1.c1
  have c2 := hc1.c2
  have HB1 : Hid (Below W4.heap.size W4 w1) := hb1
  clear hW4 hb1 hc1 e0 o0
  go_wp2_with fail
  refine (e1 _).mono ?_
  rintro e w2 ⟨vl, rfl, ol, hb2⟩
  have HB2 : Hid (Below W4.heap.size W4 w2) := HB1.out.trans (hb2.mono HB1.out.size)
  clear hb2 c0 c1 c2 HB1 e1
  obtain ⟨al, cl, rfl⟩ := own_slice ol
  have hj := join_own ol hL (by rw [hLs, ← Lib.size_eq]; omega)
  rw [hLs, sv_of] at hj
  go_wp2_with fail
  refine hj.mono ?_
  rintro e w3 ⟨rfl, hb3⟩
  have ol3 := own_below ol hb3
  have HB3 : Hid (Below W4.heap.size W4 w3) := HB2.out.trans (hb3.mono HB2.out.size)
  have hc3 : CutAt w3 w.heap.size mn mx bt := HC.out.kept (Kept.of_below (p := fun _ => True) HB3.out) trivial
  have c0 := hc3.c0
  have c1 := hc3.c1
  clear hb3 ol hj HB2 hc3
  go_wp2_with fail
  go_loopw [42] (fun i wr => ∃ k : Nat, k ≤ L.length ∧ i = .int .i64 k ∧ wr = w3) (fun i _ => L.length - (intOf i).toNat)
  case atStart => exact ⟨0, Nat.zero_le _, rfl, rfl⟩
  case round =>
    obtain ⟨k, hk, rfl, rfl⟩ := hrel
    by_cases hlt : k < L.length
    · obtain ⟨p1, p2, p3⟩ := hPL k hlt
      obtain ⟨g, cap, hv⟩ := own_split ol3 (by omega)
      cases hv
      obtain ⟨pb, hpb⟩ : ∃ pb : ByteArray, pb = ⟨L[k].toArray⟩ := ⟨_, rfl⟩
      have hcell : wr.cell? ⟨g, k, none⟩ = some (.string pb) := by
        rw [own_cell ol3 k hlt, hpb]; rfl
      have hps : pb.size = L[k].length := by rw [hpb]; simp [ByteArray.size]
      have q0 : pb.toList.isEmpty = false := by
        rw [Lib.toList_data, hpb, List.isEmpty_eq_false_iff]
        intro e
        simp at e
        rw [e] at p1
        simp at p1
      have q1 : (pb.size : Int) ≤ mx := by omega
      by_cases hmn : mn ≤ (pb.size : Int)
      · clear p1 p2 p3 hpb hps
        go_wp2_with fail
        go_roundw
        case rel => exact ⟨k + 1, by omega, by go_num, trivial⟩
        case measure => simp only [intOf]; omega
      · have q2 : ¬ (k : Int) < (L.length : Int) - 1 := fun h => hmn (by have := p3 (by omega); omega)
        clear p1 p2 p3 hpb hps
        go_wp2_with fail
        go_roundw
        case rel => exact ⟨k + 1, by omega, by go_num, trivial⟩
        case measure => simp only [intOf]; omega
    · obtain rfl : k = L.length := by omega
      clear hPL
      go_wp2_with fail
      refine (e2 _).mono ?_
      rintro e w5 ⟨vf, rfl, of, hb5⟩
      have HB5 : Hid (Below W4.heap.size W4 w5) := HB3.out.trans (hb5.mono HB3.out.size)
      clear hb5 e2
      obtain ⟨af, cf, rfl⟩ := own_slice of
      rcases HP.out with ⟨hkf, rfl⟩ | ⟨rfl, hFs, hs5, hPF⟩
      · have hq : (kf != 0) = true := by rw [bne_iff_ne]; exact hkf
        clear HP
        go_wp2_with fail
        go_ret
        exact ⟨rfl, HB.out.trans (HB5.out.mono HB.out.size)⟩
      · clear HP
        go_wp2_with fail
        go_loopw [87] (fun i wr => ∃ k : Nat, k ≤ F.length ∧ i = .int .i64 k ∧ wr = w5) (fun i _ => F.length - (intOf i).toNat)
        case atStart => exact ⟨0, Nat.zero_le _, rfl, rfl⟩
        case round =>
          obtain ⟨k, hk, rfl, rfl⟩ := hrel
          by_cases hlt : k < F.length
          · obtain ⟨p1, p2, p3⟩ := hPF k hlt
            obtain ⟨g, cap, hv⟩ := own_split of (by omega)
            cases hv
            obtain ⟨pb, hpb⟩ : ∃ pb : ByteArray, pb = ⟨F[k].toArray⟩ := ⟨_, rfl⟩
            have hcell : wr.cell? ⟨g, k, none⟩ = some (.string pb) := by
              rw [own_cell of k hlt, hpb]; rfl
            have hps : pb.size = F[k].length := by rw [hpb]; simp [ByteArray.size]
            have q0 : pb.toList.isEmpty = false := by
              rw [Lib.toList_data, hpb, List.isEmpty_eq_false_iff]
              intro e
              simp at e
              rw [e] at p1
              simp at p1
            have q1 : (pb.size : Int) ≤ n := by omega
            by_cases hmn : n ≤ (pb.size : Int)
            · clear p1 p2 p3 hpb hps
              go_wp2_with fail
              go_roundw
              case rel => exact ⟨k + 1, by omega, by go_num, trivial⟩
              case measure => simp only [intOf]; omega
            · have q2 : ¬ (k : Int) < (F.length : Int) - 1 := fun h => hmn (by have := p3 (by omega); omega)
              clear p1 p2 p3 hpb hps
              go_wp2_with fail
              go_roundw
              case rel => exact ⟨k + 1, by omega, by go_num, trivial⟩
              case measure => simp only [intOf]; omega
          · obtain rfl : k = F.length := by omega
            clear hPF
            go_wp2_with fail
            have hjf := join_own of hF (by rw [hFs, ← Lib.size_eq]; omega)
            rw [hFs, sv_of] at hjf
            refine hjf.mono ?_
            rintro e w6 ⟨rfl, hb6⟩
            have HB6 : Hid (Below W4.heap.size W4 w6) := HB5.out.trans (hb6.mono HB5.out.size)
            clear hb6 hjf of
            go_wp2_with fail
            go_ret
            exact ⟨rfl, HB.out.trans (HB6.out.mono HB.out.size)⟩

set_option maxHeartbeats 2000000 in
theorem chunkWhole_no (mn mx bt n kc kf : Int) (s : ByteArray) (w : World) (A0 F : List Ck.Bs) (hA0 : A0.length = 2) (hF : F.length ≤ 4096)
    (e0 : ∀ V, Calls Try.prog 9 #[.int .i64 2, .string ⟨#[97, 98, 99]⟩] V fun e w' => ∃ v, e = .returned (.tuple #[v, .int .i64 0]) ∧ w'.ownsRow V.heap.size 9 1 v A0.length (A0.map Sv) ∧ Below V.heap.size V w')
    (e1 : ∀ V, Calls Try.prog 11 #[cutV mn mx bt, .string s] V fun e w' => ∃ v, e = .returned (.tuple #[v, .int .i64 kc]) ∧ w'.ownsRow V.heap.size 9 1 v 0 [] ∧ Below V.heap.size V w')
    (e2 : ∀ V, Calls Try.prog 9 #[.int .i64 n, .string s] V fun e w' => ∃ v, e = .returned (.tuple #[v, .int .i64 kf]) ∧ w'.ownsRow V.heap.size 9 1 v F.length (F.map Sv) ∧ Below V.heap.size V w')
    (hkc : kc ≠ 0)
    (hP : (kf ≠ 0 ∧ F = []) ∨ (kf = 0 ∧ F.flatten = s.data.toList ∧ s.size ≤ 4096 ∧ ∀ j (h : j < F.length), 0 < F[j].length ∧ (F[j].length : Int) ≤ n ∧ (j + 1 < F.length → n ≤ (F[j].length : Int)))) :
    Calls Try.prog 6 #[cutV mn mx bt, .int .i64 n, .string s] w fun e w' => e = .returned (.bool true) ∧ Below w.heap.size w w' := by
  unfold cutV at e1 ⊢
  obtain ⟨W4, hW4⟩ : ∃ W4, W4 = w.alloc (Obj.cells #[Value.int IntKind.i64 mn, Value.int IntKind.i64 mx, Value.int IntKind.i64 bt] 23) := ⟨_, rfl⟩
  have HC : Hid (CutAt W4 w.heap.size mn mx bt) := by rw [hW4]; exact World.alloc_heap_new w _
  have HB : Hid (Below w.heap.size w W4) := by rw [hW4]; exact (Below.refl _ w).alloc (Nat.le_refl _) _
  have HP : Hid ((kf ≠ 0 ∧ F = []) ∨ (kf = 0 ∧ F.flatten = s.data.toList ∧ s.size ≤ 4096 ∧ ∀ j (h : j < F.length), 0 < F[j].length ∧ (F[j].length : Int) ≤ n ∧ (j + 1 < F.length → n ≤ (F[j].length : Int)))) := hP
  clear hP
  go_enter Try.func6, Try.ntmps6
  go_wp2_with fail
  rw [← hW4]
  refine (e0 _).mono ?_
  rintro e w1 ⟨v0, rfl, o0, hb1⟩
  obtain ⟨a0, c0', rfl⟩ := own_slice o0
  have hc1 : CutAt w1 w.heap.size mn mx bt := HC.out.kept (Kept.of_below (p := fun _ => True) hb1) trivial
  have c0 := hc1.c0
  have c1 := hc1.c1
  have c2 := hc1.c2
  have HB1 : Hid (Below W4.heap.size W4 w1) := hb1
  clear hW4 hb1 hc1 e0 o0
  go_wp2_with fail
  refine (e1 _).mono ?_
  rintro e w2 ⟨vl, rfl, ol, hb2⟩
  have HB2 : Hid (Below W4.heap.size W4 w2) := HB1.out.trans (hb2.mono HB1.out.size)
  clear hb2 c0 c1 c2 HB1 e1
  obtain ⟨al, cl, rfl⟩ := own_slice (l := []) ol
  have hq0 : (kc == 0) = false := by rw [beq_eq_false_iff_ne]; exact hkc
  clear hkc ol
  go_wp2_with fail
  refine (e2 _).mono ?_
  rintro e w5 ⟨vf, rfl, of, hb5⟩
  have HB5 : Hid (Below W4.heap.size W4 w5) := HB2.out.trans (hb5.mono HB2.out.size)
  clear hb5 e2
  obtain ⟨af, cf, rfl⟩ := own_slice of
  rcases HP.out with ⟨hkf, rfl⟩ | ⟨rfl, hFs, hs5, hPF⟩
  · have hq : (kf != 0) = true := by rw [bne_iff_ne]; exact hkf
    clear HP
    go_wp2_with fail
    go_ret
    exact ⟨rfl, HB.out.trans (HB5.out.mono HB.out.size)⟩
  · clear HP
    go_wp2_with fail
    go_loopw [87] (fun i wr => ∃ k : Nat, k ≤ F.length ∧ i = .int .i64 k ∧ wr = w5) (fun i _ => F.length - (intOf i).toNat)
    case atStart => exact ⟨0, Nat.zero_le _, rfl, rfl⟩
    case round =>
      obtain ⟨k, hk, rfl, rfl⟩ := hrel
      by_cases hlt : k < F.length
      · obtain ⟨p1, p2, p3⟩ := hPF k hlt
        obtain ⟨g, cap, hv⟩ := own_split of (by omega)
        cases hv
        obtain ⟨pb, hpb⟩ : ∃ pb : ByteArray, pb = ⟨F[k].toArray⟩ := ⟨_, rfl⟩
        have hcell : wr.cell? ⟨g, k, none⟩ = some (.string pb) := by
          rw [own_cell of k hlt, hpb]; rfl
        have hps : pb.size = F[k].length := by rw [hpb]; simp [ByteArray.size]
        have q0 : pb.toList.isEmpty = false := by
          rw [Lib.toList_data, hpb, List.isEmpty_eq_false_iff]
          intro e
          simp at e
          rw [e] at p1
          simp at p1
        have q1 : (pb.size : Int) ≤ n := by omega
        by_cases hmn : n ≤ (pb.size : Int)
        · clear p1 p2 p3 hpb hps
          go_wp2_with fail
          go_roundw
          case rel => exact ⟨k + 1, by omega, by go_num, trivial⟩
          case measure => simp only [intOf]; omega
        · have q2 : ¬ (k : Int) < (F.length : Int) - 1 := fun h => hmn (by have := p3 (by omega); omega)
          clear p1 p2 p3 hpb hps
          go_wp2_with fail
          go_roundw
          case rel => exact ⟨k + 1, by omega, by go_num, trivial⟩
          case measure => simp only [intOf]; omega
      · obtain rfl : k = F.length := by omega
        clear hPF
        go_wp2_with fail
        have hjf := join_own of hF (by rw [hFs, ← Lib.size_eq]; omega)
        rw [hFs, sv_of] at hjf
        refine hjf.mono ?_
        rintro e w6 ⟨rfl, hb6⟩
        have HB6 : Hid (Below W4.heap.size W4 w6) := HB5.out.trans (hb6.mono HB5.out.size)
        clear hb6 hjf of
        go_wp2_with fail
        go_ret
        exact ⟨rfl, HB.out.trans (HB6.out.mono HB.out.size)⟩
end Go.Proofs.Ytdalpicpkandcaa
