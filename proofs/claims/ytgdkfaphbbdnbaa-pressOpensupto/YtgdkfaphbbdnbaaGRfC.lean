/-
  What bitsOf of the document's answer (package lumref) answers: bits as a text of the signs 0 and 1.
  The library's contracts at this program: Builder_String_any (laid by the guide's own tools, written out in plain words).
  strings.Builder at this program: what WriteString and String do (a builder's copy check is walked here: its last branch is not in the cut).
  The library's contracts at this program: strings_Repeat (laid by the guide's own tools, written out in plain words).
  What Coded of the document's answer (package lumref) answers.
  What Press of the document's answer (package lumref) answers.
-/
import Derived.Test.YtgdkfaphbbdnbaaGRfA
import Derived.Test.YtgdkfaphbbdnbaaGPrM
import Derived.Shelf.Strings.Builder1
import Derived.Test.YtgdkfaphbbdnbaaProg
import Derived.Test.YtgdkfaphbbdnbaaGLzB
import Derived.Test.YtgdkfaphbbdnbaaGHfC
import Derived.Lib.Builder
import Derived.Lib.AppendStr
import Derived.Laws.Externs
import Derived.Shelf.Strings.Repeat
import Derived.Test.YtgdkfaphbbdnbaaGPrP
import Derived.Test.YtgdkfaphbbdnbaaGRfB

namespace Go.Proofs.Ytgdkfaphbbdnbaa
open Go.RowKit
set_option maxRecDepth 4000

namespace Pr
/-- bits as signs -/
def sb (b : List Bool) : Bs := b.map fun x => if x then 49 else 48
theorem sb_length (b : List Bool) : (sb b).length = b.length := by simp [sb]
theorem sb_append (a b : List Bool) : sb (a ++ b) = sb a ++ sb b := by simp [sb]
theorem sb_inj {a b : List Bool} (h : sb a = sb b) : a = b := by
  induction a generalizing b with
  | nil =>
    have := congrArg List.length h
    rw [sb_length, sb_length] at this
    exact (List.length_eq_zero_iff.1 this.symm).symm
  | cons x a ih =>
    cases b with
    | nil => have := congrArg List.length h; rw [sb_length, sb_length] at this; simp at this
    | cons y b =>
      simp only [sb, List.map_cons, List.cons.injEq] at h
      rw [ih h.2]
      cases x <;> cases y <;> simp_all
theorem sb_wd (c n : Nat) : sb (wd c (n + 1)) = sb (wd (c / 2) n) ++ [UInt8.ofNat (48 + c % 2)] := by
  rw [wd, sb_append]
  congr 1
  by_cases h : c % 2 = 1
  · rw [h]; rfl
  · rw [show c % 2 = 0 by omega]; rfl
end Pr

set_option maxHeartbeats 1000000 in
theorem bits_any (n : Nat) : ∀ (c : Nat) (w : World), c ≤ 281474976710656 → n ≤ 48 →
    Calls Try.prog 17 #[.int .i64 c, .int .i64 n] w fun e w' => e = .returned (.string ⟨(Pr.sb (Pr.wd c n)).toArray⟩) ∧ Below w.heap.size w w' := by
  induction n with
  | zero =>
    intro c w h0 _
    go_enter Try.func17, Try.ntmps17
    go_wp2_with fail
    go_ret
    exact ⟨rfl, Below.refl _ _⟩
  | succ n ih =>
    intro c w hc hn
    have hd : Hid (Pr.sb (Pr.wd c (n + 1)) = Pr.sb (Pr.wd (c / 2) n) ++ [UInt8.ofNat (48 + c % 2)]) := Pr.sb_wd c n
    have hq : (((n + 1 : Nat) : Int) == 0) = false := by rw [beq_eq_false_iff_ne]; omega
    have ihc := fun W => ih (c / 2) W (by omega) (by omega)
    have IH : Hid (∀ W, Calls Try.prog 17 #[.int .i64 (c / 2 : Nat), .int .i64 n] W fun e w' => e = .returned (.string ⟨(Pr.sb (Pr.wd (c / 2) n)).toArray⟩) ∧ Below W.heap.size W w') := ihc
    have hl : (Pr.sb (Pr.wd (c / 2) n)).length = n := by rw [Pr.sb_length, Pr.wd_length]
    obtain ⟨L, hL⟩ : ∃ L, Pr.sb (Pr.wd (c / 2) n) = L := ⟨_, rfl⟩
    rw [hL] at hd IH hl
    have m0 : (0 : Int) ≤ 48 + (c : Int) % 2 := by omega
    have m1 : 48 + (c : Int) % 2 ≤ 255 := by omega
    have hr1 := str_new (48 + (c : Int) % 2) m0 m1
    have hr2 := str_new_drew (48 + (c : Int) % 2) m0 m1
    have hcat : ∀ W : World, (Op.stringOp .add ⟨L.toArray⟩ ⟨#[UInt8.ofNat (48 + (c : Int) % 2).toNat]⟩).run Try.prog W = .ok (.string ⟨(L ++ [UInt8.ofNat (48 + (c : Int) % 2).toNat]).toArray⟩) W := fun W =>
      run_string_add_lists W _ [UInt8.ofNat (48 + (c : Int) % 2).toNat] (by omega) (by simp)
    have HE : Hid ((48 + (c : Int) % 2).toNat = 48 + c % 2) := by show _ = _; omega
    have ec : ((c / 2 : Nat) : Int) = (c : Int) / 2 := by omega
    rw [ec] at IH
    have HL : Hid (L.length = n) := hl
    have hw1 : IntKind.i64.wrap ((c : Int) / 2) = (c : Int) / 2 := by simp only [IntKind.wrap, IntKind.bits, IntKind.signed]; simp; omega
    have hw2 : IntKind.i64.wrap (n : Int) = (n : Int) := by simp only [IntKind.wrap, IntKind.bits, IntKind.signed]; simp; omega
    have hw3 : (c : Int).tmod 2 = (c : Int) % 2 := Int.tmod_eq_emod_of_nonneg (by omega)
    have hw4 : IntKind.u8.wrap ((c : Int) % 2) = (c : Int) % 2 := by simp only [IntKind.wrap, IntKind.bits, IntKind.signed]; simp; omega
    have hw5 : IntKind.u8.wrap (48 + (c : Int) % 2) = 48 + (c : Int) % 2 := by simp only [IntKind.wrap, IntKind.bits, IntKind.signed]; simp; omega
    clear ih ihc hL ec hl
    go_enter Try.func17, Try.ntmps17
    go_wp2_with fail
    go_region_with (refine (IH.out _).mono ?_; rintro e w' ⟨rfl, hb⟩; try (have hr3 := str_kept w (48 + (c : Int) % 2) m0 m1 hb))
    all_goals
      clear hr1 hr2 hcat
      go_wp2_with fail
      go_ret
      refine ⟨by rw [hd.out, ← HE.out]; rfl, ?_⟩
      first
        | (have h := hb.size; exact ((Below.refl _ _).drew.trans hb).alloc (by simpa using h) _)
        | exact (((Below.refl _ _).alloc (Nat.le_refl _) _).drew).trans (hb.mono (by simp))
end Go.Proofs.Ytgdkfaphbbdnbaa

namespace Go.Proofs
open Go.Shelf
def Try.lays169_ren : Go.Shelf.Ren := ⟨fun | 169 => 19 | n => n, fun | 70 => 36 | 9 => 9 | 0 => 0 | 72 => 38 | 37 => 26 | 127 => 76 | 3 => 3 | 5 => 5 | n => n, fun | n => n⟩
theorem Try.lays169 : Go.Proofs.Lays.n169 Try.prog Try.lays169_ren := {
  mixed := by kernel_rfl
  f169 := Try.func19.trans (congrArg some (by kernel_rfl))
  t0 := Try.underlying0
  a0 := Try.isAgg0
  z0 := Try.sizeOf0
  v0 := Try.zeroValue0
  t3 := Try.underlying3
  a3 := Try.isAgg3
  z3 := Try.sizeOf3
  v3 := Try.zeroValue3
  t9 := Try.underlying9
  a9 := Try.isAgg9
  z9 := Try.sizeOf9
  v9 := Try.zeroValue9
  t37 := Try.underlying26
  a37 := Try.isAgg26
  z37 := Try.sizeOf26
  v37 := Try.zeroValue26
  t70 := Try.underlying36
  a70 := Try.isAgg36
  z70 := Try.sizeOf36
  v70 := Try.zeroValue36
  t72 := Try.underlying38
  a72 := Try.isAgg38
  z72 := Try.sizeOf38
  v72 := Try.zeroValue38
  t127 := Try.underlying76
  a127 := Try.isAgg76
  z127 := Try.sizeOf76
  v127 := Try.zeroValue76 }
theorem Try.Builder_Extra_169 : Builder.Extra Try.prog Try.lays169_ren := {
  sizeBuilder := by kernel_rfl
  liesBuilder := by kernel_rfl
  t5 := Try.underlying5
  a5 := Try.isAgg5
  z5 := Try.sizeOf5
  v5 := Try.zeroValue5
  infoByte := by kernel_rfl
  cellsByte := by kernel_rfl
  sizeByte := by kernel_rfl
  neB5 := by decide }
open Go.RowKit in
theorem Try.Builder_String_any (B b : Nat) (l : List UInt8) (w : World) (h : Lib.IsBuilder 38 5 B b (Lib.byteCells l) w) (hBw : B ≤ w.heap.size) :
    Calls Try.prog 19 #[.pointer (some ⟨b, 0, none⟩)] w fun e w' => e = .returned (.string ⟨l.toArray⟩) ∧ Below B w w' := Any.Builder_String_any Try.lays169 Try.Builder_Extra_169 B b l w h hBw
end Go.Proofs

namespace Go.Proofs.Ytgdkfaphbbdnbaa
open Go.RowKit
set_option maxRecDepth 4000

theorem size_bld : (Try.prog.info? 38).map (·.size) = some 2 := by kernel_rfl
theorem lies_bld : liesAt Try.prog Try.prog.depth 38 (2 / Try.prog.cellsOf 38) 0 38 1 = true := by kernel_rfl

set_option maxHeartbeats 1000000 in
theorem copied_used (b : Nat) (w : World) (h0 : w.cell? ⟨b, 0, none⟩ = some (.pointer (some ⟨b, 0, none⟩))) :
    Calls Try.prog 45 #[.pointer (some ⟨b, 0, none⟩)] w fun e w' => e = .returned (.tuple #[]) ∧ w' = w := by
  obtain ⟨j, hj, _⟩ := Option.map_eq_some_iff.1 size_bld
  have hn := Lib.run_neq_ptr_same w (a := ⟨b, 0, none⟩) Try.underlying36 hj
  go_enter Try.func45, Try.ntmps45
  go_wp2_with fail
  go_end0
  exact ⟨rfl, rfl⟩
/-- a pointer to a builder as a bare address, and back -/
theorem up_to (b : Nat) (w : World) (hsh : w.shape? b = some (38, 2)) : (convert 36 123 (.pointer (some ⟨b, 0, none⟩))).run Try.prog w = .ok (.pointer (some ⟨b, 0, none⟩)) w := by
  obtain ⟨j, hj, hjs⟩ := Option.map_eq_some_iff.1 size_bld
  simp [convert, Conv.unsafePointer, run_underlying Try.underlying36, run_underlying Try.underlying123, Conv.seenAt, viewAt, cellsIn, hsh, sizeOf, typeInfo, hj, hjs]
theorem up_back (b : Nat) (w : World) (hsh : w.shape? b = some (38, 2)) : (convert 123 36 (.pointer (some ⟨b, 0, none⟩))).run Try.prog w = .ok (.pointer (some ⟨b, 0, none⟩)) w := by
  obtain ⟨j, hj, _⟩ := Option.map_eq_some_iff.1 size_bld
  simp [convert, Conv.unsafePointer, run_underlying Try.underlying36, run_underlying Try.underlying123, Conv.seenAt, viewAt, hsh, variablesAt, lies_bld, sizeOf, typeInfo, hj]

set_option maxHeartbeats 1000000 in
theorem copied_fresh (b : Nat) (w : World) (h0 : w.cell? ⟨b, 0, none⟩ = some (.pointer none)) (hsh : w.shape? b = some (38, 2)) (hfz : w.frozen? ⟨b, 0, none⟩ = false) :
    Calls Try.prog 45 #[.pointer (some ⟨b, 0, none⟩)] w fun e w' => e = .returned (.tuple #[]) ∧ w' = w.setCell ⟨b, 0, none⟩ (.pointer (some ⟨b, 0, none⟩)) := by
  have hto := up_to b w hsh
  have hfrom := up_back b w hsh
  go_enter Try.func45, Try.ntmps45
  go_wp2_with fail
  rw [run_callFunc_extern Try.func76 (by kernel_rfl) (by kernel_rfl) (by kernel_rfl) (e := Extern.AbiNoEscape.same) (by kernel_rfl), Lib.run_noEscape]
  simp only [Result.andThen]
  rw [Oper.upon_value]
  go_wp2_with fail
  go_end0
  exact ⟨rfl, rfl⟩

/-- a builder that holds l, its bytes in a row of blocks from base on -/
structure Bld (W : World) (base b : Nat) (l : List UInt8) : Prop where
  at_ : ∃ p v, W.heap[b]? = some (.cells #[p, v] 38 (0, 0)) ∧ (p = .pointer none ∨ p = .pointer (some ⟨b, 0, none⟩)) ∧ W.ownsRow base 5 1 v l.length (l.map B)
  lt : b < base
theorem Bld.new (w W : World) (hb : Below (w.alloc (.cells #[.pointer none, .slice none 0 0] 38)).heap.size (w.alloc (.cells #[.pointer none, .slice none 0 0] 38)) W) : Bld W W.heap.size w.heap.size [] :=
  ⟨⟨_, _, (hb.block _ (by simp)).trans (heap_alloc_new w _), .inl rfl, World.ownsRow_nil _ _ _ _⟩, by have := hb.size; simp at this; omega⟩
theorem Bld.kept {p : Nat → Prop} {W W' : World} {base b : Nat} {l : List UInt8} (h : Bld W base b l) (hk : Kept p W W') (hp : ∀ k, (k = b ∨ base ≤ k) → p k) : Bld W' base b l := by
  obtain ⟨⟨q, v, h1, h2, h3⟩, h4⟩ := h
  refine ⟨⟨q, v, hk.obj (hp b (.inl rfl)) h1, h2, ?_⟩, h4⟩
  obtain ⟨r1, r2⟩ := h3
  refine ⟨r1, ?_⟩
  rcases r2 with r2 | ⟨g, cap, cur, hv, hg, hh, r⟩
  · exact .inl r2
  · exact .inr ⟨g, cap, cur, hv, hg, by rw [hk.block g (Array.getElem?_eq_some_iff.1 hh).1 (hp g (.inr hg)), hh], r⟩

theorem copied_any (b : Nat) (p v : Value) (w : World) (hbx : w.heap[b]? = some (.cells #[p, v] 38 (0, 0))) (hp : p = .pointer none ∨ p = .pointer (some ⟨b, 0, none⟩)) :
    Calls Try.prog 45 #[.pointer (some ⟨b, 0, none⟩)] w fun e w' => e = .returned (.tuple #[]) ∧ w'.heap[b]? = some (.cells #[.pointer (some ⟨b, 0, none⟩), v] 38 (0, 0)) ∧ Kept (fun k => k ≠ b) w w' := by
  have c0 : w.cell? ⟨b, 0, none⟩ = some p := by rw [cell_of_row _ b 0 _ _ _ hbx]; rfl
  rcases hp with rfl | rfl
  · refine (copied_fresh b w c0 (by simp [World.shape?, hbx]) (by simp [World.frozen?, hbx])).mono ?_
    rintro e w' ⟨rfl, rfl⟩
    refine ⟨rfl, ?_, (Kept.refl _ _).setCell (by simp) _⟩
    rw [heap_setCell_same _ _ _ _ _ _ hbx]
    rfl
  · refine (copied_used b w c0).mono ?_
    rintro e w' ⟨rfl, rfl⟩
    exact ⟨rfl, hbx, Kept.refl _ _⟩

set_option maxHeartbeats 1000000 in
theorem wstr_any (base b : Nat) (l : List UInt8) (s : ByteArray) (w : World) (h : Bld w base b l) (hl : l.length + s.size ≤ 140737488355328) (hb : base ≤ w.heap.size) :
    Calls Try.prog 18 #[.pointer (some ⟨b, 0, none⟩), .string s] w fun e w' => e = .returned (.tuple #[.int .i64 s.size, .nilIface]) ∧ Bld w' base b (l ++ s.data.toList) ∧ Kept (fun k => k ≠ b ∧ k < base) w w' := by
  obtain ⟨i0, hi, hz0, hz1, hz2⟩ := info_parts info_u8
  obtain ⟨⟨p, v, hbx, hp, hown⟩, hlt⟩ := h
  have hc := copied_any b p v w hbx hp
  have HO : Hid (w.ownsRow base 5 1 v l.length (l.map B)) := hown
  clear hbx hp hown
  go_enter Try.func18, Try.ntmps18
  go_wp2_with fail
  refine hc.mono ?_
  rintro e w1 ⟨rfl, hbk, hk1⟩
  clear hc
  have hs1 := hk1.size
  have hown : w1.ownsRow base 5 1 v l.length (l.map B) := by
    obtain ⟨r1, r2⟩ := HO.out
    refine ⟨r1, ?_⟩
    rcases r2 with r2 | ⟨g, cap, cur, hv, hg, hh, r⟩
    · exact .inl r2
    · exact .inr ⟨g, cap, cur, hv, hg, by rw [hk1.block g (Array.getElem?_eq_some_iff.1 hh).1 (by omega), hh], r⟩
  have HK1 : Hid (Kept (fun k => k ≠ b ∧ k < base) w w1) := hk1.mono fun _ h => h.1
  have hne : ∀ g, v.ownBlock = some g → base ≤ g := fun g hg => (hown.lt g hg).1
  have HNE : Hid (∀ g, v.ownBlock = some g → base ≤ g) := hne
  have c1 : w1.cell? ⟨b, 1, none⟩ = some v := by rw [cell_of_row _ b 1 _ _ _ hbk]; rfl
  have HBK : Hid (w1.heap[b]? = some (.cells #[.pointer (some ⟨b, 0, none⟩), v] 38 (0, 0))) := hbk
  obtain ⟨a, c, rfl⟩ := own_form hown
  clear hk1 hne hbk HO
  go_wp2_with (at_builtin; refine Lib.wpList_append_own_string _ rfl (.tmp 12) (.tmp 13) 26 9 rfl base 5 i0 Try.underlying26 Try.underlying9 hi hz0 hz1 hz2 _ _ _ rfl hown s rfl ?c3 ?c4 ?c5 ?_)
  case c3 => unfold maxLen; omega
  case c4 => omega
  case c5 => omega
  intro v' w2 hown' hgrow _
  have hltb : b < w1.heap.size := (Array.getElem?_eq_some_iff.1 HBK.out).1
  have hb2 : w2.heap[b]? = some (.cells #[.pointer (some ⟨b, 0, none⟩), .slice a l.length c] 38 (0, 0)) := by
    rw [hgrow.block b hltb (fun e => by have := HNE.out b e.symm; omega)]
    exact HBK.out
  have d1 : w2.cell? ⟨b, 1, none⟩ = some (.slice a l.length c) := by rw [cell_of_row _ b 1 _ _ _ hb2]; rfl
  have f1 : w2.frozen? ⟨b, 1, none⟩ = false := by simp [World.frozen?, hb2]
  have hk2 : Kept (fun k => k ≠ b) w2 (w2.setCell ⟨b, 1, none⟩ v') := (Kept.refl _ _).setCell (by simp) _
  have HR : Hid (Bld (w2.setCell ⟨b, 1, none⟩ v') base b (l ++ s.data.toList)) := by
    refine ⟨⟨.pointer (some ⟨b, 0, none⟩), v', ?_, .inr rfl, ?_⟩, hlt⟩
    · rw [heap_setCell_same _ _ _ _ _ _ hb2]
      rfl
    · rw [List.length_append, List.map_append, ← Lib.size_eq]
      have hr := hown'
      obtain ⟨r1, r2⟩ := hr
      refine ⟨r1, ?_⟩
      rcases r2 with r2 | ⟨g, cap, cur, hv, hg, hh, r⟩
      · exact .inl r2
      · exact .inr ⟨g, cap, cur, hv, hg, by rw [hk2.block g (Array.getElem?_eq_some_iff.1 hh).1 (by omega), hh], r⟩
  have HK2 : Hid (Kept (fun k => k ≠ b ∧ k < base) w (w2.setCell ⟨b, 1, none⟩ v')) := (HK1.out.grown hgrow (fun k hk hp => by have := HNE.out k hk; omega)).setCell (fun h => h.1 rfl) _
  obtain ⟨a', c', rfl⟩ := own_form hown'
  clear hown' hgrow hown c1 hk2 hb2
  go_wp2_with fail
  go_ret2
  exact ⟨rfl, HR.out, HK2.out⟩
theorem bstr_any (base b : Nat) (l : List UInt8) (w : World) (h : Bld w base b l) (hb : base ≤ w.heap.size) :
    Calls Try.prog 19 #[.pointer (some ⟨b, 0, none⟩)] w fun e w' => e = .returned (.string ⟨l.toArray⟩) ∧ Below b w w' := by
  obtain ⟨⟨p, v, h1, h2, h3⟩, h4⟩ := h
  refine Try.Builder_String_any b b l w ?_ (by omega)
  have hat : Lib.BuilderAt 38 5 b b p (Lib.byteCells l) w := by
    refine ⟨Nat.le_refl _, v, h1, ?_, fun e => ?_⟩
    · rw [show (Lib.byteCells l).length = l.length by simp [Lib.byteCells]]
      exact own_lower h3 (Nat.le_of_lt h4)
    · have := (h3.lt b e).1
      omega
  rcases h2 with rfl | rfl
  · exact .inl hat
  · exact .inr hat
end Go.Proofs.Ytgdkfaphbbdnbaa

namespace Go.Proofs
open Go.Shelf
def Try.lays105_ren : Go.Shelf.Ren := ⟨fun | 105 => 35 | 212 => 64 | 99 => 46 | 165 => 65 | 166 => 18 | 170 => 66 | 169 => 19 | 263 => 88 | 264 => 89 | 206 => 77 | 240 => 45 | 241 => 90 | 276 => 76 | 277 => 101 | n => n, fun | 9 => 9 | 3 => 3 | 4 => 4 | 20 => 20 | 0 => 0 | 46 => 85 | 109 => 102 | 5 => 5 | 72 => 38 | 76 => 41 | 51 => 134 | 146 => 135 | 53 => 62 | 148 => 137 | 70 => 36 | 37 => 26 | 75 => 40 | 127 => 76 | 164 => 123 | 80 => 43 | n => n, fun | n => n⟩
theorem Try.lays105 : Go.Proofs.Lays.n105 Try.prog Try.lays105_ren := {
  mixed := by kernel_rfl
  f99 := Try.func46.trans (congrArg some (by kernel_rfl))
  f105 := Try.func35.trans (congrArg some (by kernel_rfl))
  f165 := Try.func65.trans (congrArg some (by kernel_rfl))
  f166 := Try.func18.trans (congrArg some (by kernel_rfl))
  f169 := Try.func19.trans (congrArg some (by kernel_rfl))
  f170 := Try.func66.trans (congrArg some (by kernel_rfl))
  f206 := Try.func77.trans (congrArg some (by kernel_rfl))
  f212 := Try.func64.trans (congrArg some (by kernel_rfl))
  f240 := Try.func45.trans (congrArg some (by kernel_rfl))
  f241 := Try.func90.trans (congrArg some (by kernel_rfl))
  f263 := Try.func88.trans (congrArg some (by kernel_rfl))
  f264 := Try.func89.trans (congrArg some (by kernel_rfl))
  f276 := Try.func76.trans (congrArg some (by kernel_rfl))
  f277 := Try.func101.trans (congrArg some (by kernel_rfl))
  t0 := Try.underlying0
  a0 := Try.isAgg0
  z0 := Try.sizeOf0
  v0 := Try.zeroValue0
  t3 := Try.underlying3
  a3 := Try.isAgg3
  z3 := Try.sizeOf3
  v3 := Try.zeroValue3
  t4 := Try.underlying4
  a4 := Try.isAgg4
  z4 := Try.sizeOf4
  v4 := Try.zeroValue4
  t5 := Try.underlying5
  a5 := Try.isAgg5
  z5 := Try.sizeOf5
  v5 := Try.zeroValue5
  t9 := Try.underlying9
  a9 := Try.isAgg9
  z9 := Try.sizeOf9
  v9 := Try.zeroValue9
  t20 := Try.underlying20
  a20 := Try.isAgg20
  z20 := Try.sizeOf20
  v20 := Try.zeroValue20
  t37 := Try.underlying26
  a37 := Try.isAgg26
  z37 := Try.sizeOf26
  v37 := Try.zeroValue26
  t46 := Try.underlying85
  a46 := Try.isAgg85
  z46 := Try.sizeOf85
  v46 := Try.zeroValue85
  t51 := Try.underlying134
  a51 := Try.isAgg134
  z51 := Try.sizeOf134
  v51 := Try.zeroValue134
  t53 := Try.underlying62
  a53 := Try.isAgg62
  z53 := Try.sizeOf62
  v53 := Try.zeroValue62
  t70 := Try.underlying36
  a70 := Try.isAgg36
  z70 := Try.sizeOf36
  v70 := Try.zeroValue36
  t72 := Try.underlying38
  a72 := Try.isAgg38
  z72 := Try.sizeOf38
  v72 := Try.zeroValue38
  t75 := Try.underlying40
  a75 := Try.isAgg40
  z75 := Try.sizeOf40
  v75 := Try.zeroValue40
  t76 := Try.underlying41
  a76 := Try.isAgg41
  z76 := Try.sizeOf41
  v76 := Try.zeroValue41
  t109 := Try.underlying102
  a109 := Try.isAgg102
  z109 := Try.sizeOf102
  v109 := Try.zeroValue102
  t127 := Try.underlying76
  a127 := Try.isAgg76
  z127 := Try.sizeOf76
  v127 := Try.zeroValue76
  t146 := Try.underlying135
  a146 := Try.isAgg135
  z146 := Try.sizeOf135
  v146 := Try.zeroValue135
  t148 := Try.underlying137
  a148 := Try.isAgg137
  z148 := Try.sizeOf137
  v148 := Try.zeroValue137
  t164 := Try.underlying123
  a164 := Try.isAgg123
  z164 := Try.sizeOf123
  v164 := Try.zeroValue123 }
theorem Try.Builder_Extra_105 : Builder.Extra Try.prog Try.lays105_ren := {
  sizeBuilder := by kernel_rfl
  liesBuilder := by kernel_rfl
  t5 := Try.underlying5
  a5 := Try.isAgg5
  z5 := Try.sizeOf5
  v5 := Try.zeroValue5
  infoByte := by kernel_rfl
  cellsByte := by kernel_rfl
  sizeByte := by kernel_rfl
  neB5 := by decide }
open Go.RowKit Go.Lib in
theorem Try.strings_Repeat (s : ByteArray) (c : Nat) (w : World) (hc : c ≤ 9223372036854775807) (hlen : s.size * c ≤ 140737488355328) :
    Calls Try.prog 35 #[.string s, .int .i64 c] w fun e w' => e = .returned (.string ⟨(Lib.repeatL s.data.toList c).toArray⟩) ∧ Below w.heap.size w w' := Any.strings_Repeat Try.lays105 Try.Builder_Extra_105 s c w hc hlen
end Go.Proofs

namespace Go.Proofs.Ytgdkfaphbbdnbaa
open Go.RowKit
set_option maxRecDepth 4000

/-- '[]byte(s)': a row of its own -/
theorem conv_bytes (w : World) (s : ByteArray) : ∃ W1 cap, (convert 9 26 (.string s)).run Try.prog w = .ok (.slice (some ⟨w.heap.size, 0, none⟩) s.size cap) W1 ∧ Below w.heap.size w W1 ∧ w.heap.size < W1.heap.size ∧ ∀ j (hj : j < s.size), W1.cell? ⟨w.heap.size, j, none⟩ = some (.int .u8 (s[j].toNat : Int)) := by
  have hcv := run_bytes_of_string (P := Try.prog) w 9 26 5 s (by kernel_rfl) (by kernel_rfl) (by kernel_rfl)
  exact ⟨_, _, hcv, ((Below.refl _ w).alloc (Nat.le_refl _) _).drew, by simp, fun j hj => bytes_cell w s _ _ j hj⟩
theorem cell_kept {p : Nat → Prop} {A B : World} (h : Kept p A B) {g : Nat} (hg : g < A.heap.size) (hp : p g) (k : Nat) : B.cell? ⟨g, k, none⟩ = A.cell? ⟨g, k, none⟩ := by
  simp only [World.cell?, h.block g hg hp]
theorem info_str : (Try.prog.info? 9).map (fun i => (i.zero, i.size, i.bytes)) = some (some (.string ⟨#[]⟩), 1, 16) := by kernel_rfl
namespace Pr
def manyTo (l : List Nat) : Nat → Nat
  | 0 => 0
  | k + 1 => if 0 < l.getD k 0 then manyTo l k + 1 else manyTo l k
theorem many_to (l : List Nat) (k n : Nat) : manyTo l k + manyFrom l k n = manyTo l (k + n) := by
  induction n generalizing k with
  | zero => rfl
  | succ n ih =>
    rw [show k + (n + 1) = (k + 1) + n by omega, ← ih, manyFrom, manyTo]
    split <;> omega
theorem manyTo_all (l : List Nat) (n : Nat) : manyTo l n = manyFrom l 0 n := by
  have := many_to l 0 n
  rw [Nat.zero_add] at this
  rw [← this, manyTo]
  omega
theorem bytesN_snoc (k : Nat) (b : List Bool) : bytesN (k + 1) b = bytesN k b ++ [val ((b.drop (8 * k)).take 8)] := by
  induction k generalizing b with
  | zero => simp [bytesN]
  | succ k ih =>
    rw [bytesN, ih, bytesN, List.drop_drop, show 8 + 8 * k = 8 * (k + 1) by omega]
    rfl
theorem manyTo_le (l : List Nat) (k : Nat) : manyTo l k ≤ k := by
  induction k with
  | zero => exact Nat.le_refl _
  | succ k ih =>
    rw [manyTo]
    split <;> omega
/-- a sign's word as a text -/
def wS (l : List Nat) (i : Nat) : ByteArray := ⟨(sb (W l i)).toArray⟩
theorem wS_list (l : List Nat) (i : Nat) : (wS l i).data.toList = sb (W l i) := rfl
theorem wS_none {l : List Nat} {i : Nat} (h : l.getD i 0 = 0) : wS l i = ⟨#[]⟩ := by
  unfold wS W
  rw [h]
  rfl
theorem wS_size (l : List Nat) (i : Nat) : (wS l i).size = l.getD i 0 := by rw [Lib.size_eq, wS_list, sb_length, W_length]
end Pr
def strSz (v : Value) : Nat := match v with
  | .string s => s.size
  | _ => 0
theorem repeat_zero (z : Nat) : Lib.repeatL (⟨#[48]⟩ : ByteArray).data.toList z = (List.replicate z false).map fun x : Bool => if x then (49 : UInt8) else 48 := by
  induction z with
  | zero => rfl
  | succ z ih =>
    rw [List.replicate_succ, List.map_cons, ← ih]
    rfl
/-- two texts one behind the other -/
theorem cat_bytes (a : ByteArray) (l : List UInt8) (h : a.data.toList.length ≤ 1000000) (h2 : l.length ≤ 1000000) : ∀ W : World, (Op.stringOp .add a ⟨l.toArray⟩).run Try.prog W = .ok (.string ⟨(a.data.toList ++ l).toArray⟩) W := fun W => by
  have e : a = ⟨a.data.toList.toArray⟩ := by cases a; rfl
  rw [e]
  exact run_string_add_lists W _ l (by omega) (by omega)
theorem cat_two (a b : ByteArray) (h : a.data.toList.length ≤ 1000000) (h2 : b.data.toList.length ≤ 1000000) : ∃ c : ByteArray, c.data.toList = a.data.toList ++ b.data.toList ∧ ∀ W : World, (Op.stringOp .add a b).run Try.prog W = .ok (.string c) W := by
  refine ⟨⟨(a.data.toList ++ b.data.toList).toArray⟩, rfl, fun W => ?_⟩
  have e : b = ⟨b.data.toList.toArray⟩ := by cases b; rfl
  conv => lhs; rw [e]
  exact cat_bytes a _ h h2 W
/-- a row of 256 texts -/
def rowW (f : Nat → ByteArray) : List Value := (List.range 256).map fun i => .string (f i)
theorem rowW_length (f : Nat → ByteArray) : (rowW f).length = 256 := by simp [rowW]
theorem rowW_get (f : Nat → ByteArray) {i : Nat} (h : i < 256) : (rowW f)[i]? = some (.string (f i)) := by
  unfold rowW
  rw [List.getElem?_map, List.getElem?_range h]
  rfl
theorem rowW_set (f : Nat → ByteArray) (i : Nat) (x : ByteArray) : (rowW f).set i (.string x) = rowW fun j => if j = i then x else f j := by
  refine List.ext_getElem? fun j => ?_
  by_cases h : j < 256
  · rw [List.getElem?_set, rowW_length, rowW_get _ h, rowW_get _ h]
    by_cases e : i = j
    · rw [if_pos e, if_pos (by omega), if_pos e.symm]
    · rw [if_neg e, if_neg (fun e' => e e'.symm)]
  · rw [List.getElem?_eq_none (by rw [List.length_set, rowW_length]; omega), List.getElem?_eq_none (by rw [rowW_length]; omega)]
theorem rowW_congr {f g : Nat → ByteArray} (h : ∀ i, i < 256 → f i = g i) : rowW f = rowW g :=
  List.map_congr_left fun i hi => by rw [h i (List.mem_range.1 hi)]
/-- a row of empty texts that was made -/
theorem made_texts {base g : Nat} {w : World} (h : w.ownsRow base 9 1 (.slice (some ⟨g, 0, none⟩) 256 256) 256 (madeCells (Value.string ⟨#[]⟩).cells (256 * 1)).toList) :
    w.ownsRow base 9 1 (.slice (some ⟨g, 0, none⟩) 256 256) 256 (rowW fun _ => ⟨#[]⟩) := by
  have e : (madeCells (Value.string ⟨#[]⟩).cells (256 * 1)).toList = rowW fun _ => ⟨#[]⟩ := by
    refine List.ext_getElem (by simp [size_madeCells, rowW]) fun i h1 h2 => ?_
    simp [madeCells, Value.cells, rowW, Nat.mod_one]
  rw [← e]
  exact h
theorem own_text {base g n cap : Nat} {w : World} {f : Nat → ByteArray} (h : w.ownsRow base 9 1 (.slice (some ⟨g, 0, none⟩) n cap) n (rowW f)) (k : Nat) (hk : k < 256) : w.cell? ⟨g, k, none⟩ = some (.string (f k)) := by
  have hn : n = 256 := by have := h.1; rw [rowW_length] at this; omega
  rw [h.cellAt k (by omega), rowW_get f hk]
theorem store_text {base g n cap : Nat} {w : World} {f : Nat → ByteArray} (h : w.ownsRow base 9 1 (.slice (some ⟨g, 0, none⟩) n cap) n (rowW f)) (k : Nat) (x : ByteArray) : (w.setCell ⟨g, k, none⟩ (.string x)).ownsRow base 9 1 (.slice (some ⟨g, 0, none⟩) n cap) n (rowW fun j => if j = k then x else f j) := by
  have := (h.stored k (.string x)).1
  rw [← rowW_set]
  exact this

set_option maxHeartbeats 8000000 in
set_option maxRecDepth 8000 in
theorem rcoded_any (s : ByteArray) (w : World) (hs : s.size ≤ 4096) :
    Calls Try.prog 12 #[.string s] w fun e w' => ∃ (wide : List Nat) (s' : ByteArray), e = .returned (.string s') ∧ s'.data.toList = Pr.cod s.data.toList wide ∧ Hf.HL (Pr.tally (Pr.T s.data.toList)) wide ∧ Below w.heap.size w w' := by
  obtain ⟨i0, hi, hz0, hz1, hz2⟩ := info_parts info_u8
  obtain ⟨j0, gi, gz0, gz1, gz2⟩ := info_parts info_int
  obtain ⟨k0, ki, kz0, kz1, kz2⟩ := info_parts info_str
  have hsl : s.data.toList.length ≤ 4096 := by rw [← Lib.size_eq]; exact hs
  obtain ⟨hpk, hgl⟩ := Pr.pack_greedy hsl
  have hck := Pr.chk_greedy hsl
  have hTl := Pr.T_le s.data.toList
  have h1 := rgreedy_any s w hs
  go_enter Try.func12, Try.ntmps12
  go_wp2_with fail
  refine h1.mono ?_
  rintro e w1 ⟨v1, rfl, hr1, hb1⟩
  clear h1
  have h2 := texts_any v1 (Lz.greedyR s.data.toList) w1 (Toks.of_own hr1) hck
  rw [hpk] at h2
  obtain ⟨Tk, hTk⟩ : ∃ Tk : ByteArray, Tk = ⟨(Pr.T s.data.toList).toArray⟩ := ⟨_, rfl⟩
  rw [← hTk] at h2
  have HT : Hid (Tk.data.toList = Pr.T s.data.toList) := by rw [hTk]; exact rfl
  have hTz : Tk.size ≤ 12288 := by rw [Lib.size_eq, HT.out]; omega
  have HB1 : Hid (Below w.heap.size w w1) := hb1
  clear hTk hpk hr1 hb1 hTl hgl hck
  go_wp2_with fail
  refine h2.mono ?_
  rintro e w2 ⟨rfl, hb2⟩
  have HB2 : Hid (Below w.heap.size w w2) := HB1.out.trans (hb2.mono HB1.out.size)
  clear h2 hb2 HB1
  go_wp2_with (at_make; refine wpList_make_full _ rfl (.const (.int .i64 256)) (.const (.int .i64 256)) 31 rfl w2.heap.size 3 j0 (.int .i64 0) 1 Try.underlying31 gi gz0 gz1 .i64 .i64 _ _ 256 rfl rfl rfl rfl (by rw [gz2]; omega) (by unfold maxLen; omega) (Nat.le_refl _) ?_; intro w3 hown hgrow)
  have hown1 := made_zeros hown
  have HB3 : Hid (Below w2.heap.size w2 w3) := (Below.refl _ _).grown hgrow (Nat.le_refl _) (fun k hk => by cases hk)
  obtain ⟨w4, cap4, hcv, hb4, hl4, hc4⟩ := conv_bytes w3 Tk
  have HO4 : Hid (w4.ownsRow w2.heap.size 3 1 (.slice (some ⟨w2.heap.size, 0, none⟩) 256 256) 256 ((Hf.up (Pr.tally (Tk.data.toList.take 0))).map Iv)) := by
    have e : Hf.up (Pr.tally []) = List.replicate 256 (0 : Int) := by decide
    rw [List.take_zero, e]
    exact row_below hown1 hb4
  have HC4 : Hid (∀ j (hj : j < Tk.size), w4.cell? ⟨w3.heap.size, j, none⟩ = some (.int .u8 (Tk[j].toNat : Int))) := hc4
  have HB4 : Hid (Below w2.heap.size w2 w4) := HB3.out.trans (hb4.mono HB3.out.size)
  have HL4 : Hid (w2.heap.size < w3.heap.size ∧ w3.heap.size < w4.heap.size) := ⟨by
    obtain ⟨cur, hc, _⟩ := own_block hown1 (g := w2.heap.size) rfl
    exact (Array.getElem?_eq_some_iff.1 hc).1, hl4⟩
  clear hown hgrow hown1 hb4 hl4 hc4 HB3
  rw [hcv]
  simp only [Result.andThen]
  rw [Oper.upon_value]
  clear hcv
  go_wp2_with fail
  go_loopw [31] (fun i wr => ∃ k : Nat, k ≤ Tk.size ∧ i = .int .i64 k ∧ Hid (wr.ownsRow w2.heap.size 3 1 (.slice (some ⟨w2.heap.size, 0, none⟩) 256 256) 256 ((Hf.up (Pr.tally (Tk.data.toList.take k))).map Iv)) ∧ Hid (Kept (fun q => q ≠ w2.heap.size) w4 wr)) (fun i _ => Tk.size - (intOf i).toNat)
  case atStart => exact ⟨0, by omega, rfl, HO4, Kept.refl _ _⟩
  case round =>
    obtain ⟨k, hk, rfl, hown, hkp⟩ := hrel
    by_cases hlt : k < Tk.size
    · have b0 := Tk[k].toNat_lt
      have c1 := (cell_kept hkp.out (show w3.heap.size < w4.heap.size from HL4.out.2) (show w3.heap.size ≠ w2.heap.size by have := HL4.out.1; omega) k).trans (HC4.out k hlt)
      have HTT : Hid (Pr.tally (Tk.data.toList.take (k + 1)) = (Pr.tally (Tk.data.toList.take k)).set Tk[k].toNat ((Pr.tally (Tk.data.toList.take k)).getD Tk[k].toNat 0 + 1)) := by
        show _ = _
        rw [take_snoc Tk k hlt, Pr.tally_snoc]
      have hle := Pr.tally_le (Tk.data.toList.take k)
      have hlen := Pr.tally_length (Tk.data.toList.take k)
      have hX := Hf.getD_le hle Tk[k].toNat
      have htl : (Tk.data.toList.take k).length ≤ k := List.length_take_le _ _
      have hown := hown.out
      generalize Tk[k] = a at *
      generalize Pr.tally (Tk.data.toList.take k) = F at *
      have c0 := own_at hown a.toNat (by rw [Hf.up_length, hlen]; exact b0)
      rw [Hf.up_get] at c0
      have f0 := hown.frozenAt a.toNat
      have HO := own_store hown a.toNat ((F.getD a.toNat 0 + 1 : Nat) : Int)
      rw [← Pr.up_set, ← HTT.out] at HO
      generalize F.getD a.toNat 0 = X at *
      have HO' : Hid ((wr.setCell ⟨w2.heap.size, a.toNat, none⟩ (.int .i64 ((X : Int) + 1))).ownsRow w2.heap.size 3 1 (.slice (some ⟨w2.heap.size, 0, none⟩) 256 256) 256 ((Hf.up (Pr.tally (Tk.data.toList.take (k + 1)))).map Iv)) := HO
      have HK2 : Hid (Kept (fun q => q ≠ w2.heap.size) w4 (wr.setCell ⟨w2.heap.size, a.toNat, none⟩ (.int .i64 ((X : Int) + 1)))) := hkp.out.setCell (by simp) _
      clear HO hown hkp hlen hle HTT
      go_wp2_with fail
      go_roundw
      case rel => exact ⟨k + 1, by omega, by go_num, HO', HK2⟩
      case measure => simp only [intOf]; omega
    · obtain rfl : k = Tk.size := by omega
      have hown := hown.out
      rw [List.take_of_length_le (by rw [← Lib.size_eq]; exact Nat.le_refl _), HT.out] at hown
      have HB5 : Hid (Below w.heap.size w wr) := HB2.out.trans ((HB4.out.trans (hkp.out.below HB4.out.size fun q hq => by omega)).mono HB2.out.size)
      have hF2 : (Pr.tally (Pr.T s.data.toList)).length = 256 := Pr.tally_length _
      have HF3 : Hid (∀ n ∈ Pr.tally (Pr.T s.data.toList), n ≤ 1048576) := fun n hn => by
        have := Pr.tally_le _ n hn
        have h2 : (Pr.T s.data.toList).length = Tk.size := by rw [← HT.out, ← Lib.size_eq]
        omega
      have HTH : Hid (∀ b ∈ Pr.T s.data.toList, 0 < (Pr.tally (Pr.T s.data.toList)).getD b.toNat 0) := fun b hb => Pr.tally_there hb
      have h4 := rlen_any (.slice (some ⟨w2.heap.size, 0, none⟩) 256 256) (Pr.tally (Pr.T s.data.toList)) wr (Ints.of_own (base := w2.heap.size) (by rw [Hf.up_length, hF2]; exact hown)) (by omega) (by omega) HF3.out
      clear hown hkp HB2 HB4 HO4 HC4 HL4
      go_wp2_with fail
      refine h4.mono ?_
      rintro e w5 ⟨v5, wide, rfl, HHL, hr5, hb5⟩
      clear h4
      have hw256 : wide.length = 256 := by rw [HHL.len]; exact hF2
      have hg := Pr.good_of HHL (by omega) HF3.out
      have h48 := HHL.le48 (by omega) HF3.out
      have HG : Hid (Pr.Good wide) := hg
      have HHL' : Hid (Hf.HL (Pr.tally (Pr.T s.data.toList)) wide) := HHL
      have HTW : Hid (∀ b ∈ Pr.T s.data.toList, 0 < wide.getD b.toNat 0) := fun b hb => (HHL.there (by omega) HF3.out _).1 (HTH.out b hb)
      rw [hF2] at hr5
      have HW : Hid (wide.length = 256) := hw256
      have hi5 : Ints w5 v5 (Hf.up wide) := Ints.of_own (base := wr.heap.size) (by rw [Hf.up_length, hw256]; exact hr5)
      have h5 := rcodes_any v5 wide w5 hi5 (by omega) (by omega) h48 hg.sum
      rw [hw256] at h5
      have HB6 : Hid (Below w.heap.size w w5) := HB5.out.trans (hb5.mono HB5.out.size)
      obtain ⟨g5, c5, rfl⟩ : ∃ g5 c5, v5 = .slice (some ⟨g5, 0, none⟩) 256 c5 := by
        rcases hr5.2 with ⟨_, h0⟩ | ⟨g, cap, _, hv, _⟩
        · omega
        · exact ⟨g, cap, hv⟩
      have H48 : Hid (∀ n ∈ wide, n ≤ 48) := h48
      have HR5 : Hid (w5.ownsRow wr.heap.size 3 1 (.slice (some ⟨g5, 0, none⟩) 256 c5) 256 ((Hf.up wide).map Iv)) := hr5
      clear HHL hg h48 hF2 HF3 HTH hi5 hb5 HB5 hr5
      clear hw256
      go_wp2_with fail
      refine h5.mono ?_
      rintro e w6 ⟨v6, rfl, hr6, hb6⟩
      clear h5
      obtain ⟨g6, c6, rfl⟩ : ∃ g6 c6, v6 = .slice (some ⟨g6, 0, none⟩) 256 c6 := by
        rcases hr6.2 with ⟨_, h0⟩ | ⟨g, cap, _, hv, _⟩
        · omega
        · exact ⟨g, cap, hv⟩
      have HB7 : Hid (Below w.heap.size w w6) := HB6.out.trans (hb6.mono HB6.out.size)
      have HR6 : Hid (w6.ownsRow w5.heap.size 3 1 (.slice (some ⟨g6, 0, none⟩) 256 c6) 256 ((Hf.codes wide).map Iv)) := hr6
      have HR56 : Hid (w6.ownsRow wr.heap.size 3 1 (.slice (some ⟨g5, 0, none⟩) 256 c5) 256 ((Hf.up wide).map Iv)) := row_below HR5.out hb6
      clear HR5 HB6 hr6 hb6
      go_wp2_with (at_make; refine wpList_make_full _ rfl (.const (.int .i64 256)) (.const (.int .i64 256)) 34 rfl w6.heap.size 9 k0 (.string ⟨#[]⟩) 1 Try.underlying34 ki kz0 kz1 .i64 .i64 _ _ 256 rfl rfl rfl rfl (by rw [kz2]; omega) (by unfold maxLen; omega) (Nat.le_refl _) ?_; intro w7 hown7 hgrow7)
      have hown7' := made_texts hown7
      have HO7 : Hid (w7.ownsRow w6.heap.size 9 1 (.slice (some ⟨w6.heap.size, 0, none⟩) 256 256) 256 (rowW fun i => if i < 0 then Pr.wS wide i else ⟨#[]⟩)) := by
        rw [show (rowW fun i => if i < 0 then Pr.wS wide i else ⟨#[]⟩) = rowW fun _ => ⟨#[]⟩ from rowW_congr fun i _ => if_neg (by omega)]
        exact hown7'
      have HB77 : Hid (Below w6.heap.size w6 w7) := (Below.refl _ _).grown hgrow7 (Nat.le_refl _) (fun k hk => by cases hk)
      clear hown7 hgrow7 hown7'
      go_wp2_with fail
      go_loopw [12, 13, 55] (fun hv mv i wx => ∃ (k : Nat) (H : ByteArray), k ≤ 256 ∧ i = .int .i64 k ∧ hv = .string H ∧ Hid (H.data.toList = Pr.headTo wide k) ∧ mv = .int .i64 (Pr.manyTo wide k : Nat) ∧ Hid (wx.ownsRow w6.heap.size 9 1 (.slice (some ⟨w6.heap.size, 0, none⟩) 256 256) 256 (rowW fun i => if i < k then Pr.wS wide i else ⟨#[]⟩)) ∧ Hid (Below w6.heap.size w6 wx)) (fun _ _ i _ => 256 - (intOf i).toNat)
      case atStart => exact ⟨0, ⟨#[]⟩, by omega, rfl, rfl, rfl, rfl, HO7, HB77⟩
      case round =>
        clear HO7 HB77
        obtain ⟨k, H, hk, rfl, rfl, hH, rfl, hrow, hbel⟩ := hrel
        by_cases hlt2 : k < 256
        · have hk5 := own_kept HR56.out (Kept.of_below_at (p := fun k => k < w6.heap.size) hbel.out fun _ h => h) fun g hg => by
            obtain ⟨cur, hc, _⟩ := own_block HR56.out hg
            exact (Array.getElem?_eq_some_iff.1 hc).1
          have hk6 := own_kept HR6.out (Kept.of_below_at (p := fun k => k < w6.heap.size) hbel.out fun _ h => h) fun g hg => by
            obtain ⟨cur, hc, _⟩ := own_block HR6.out hg
            exact (Array.getElem?_eq_some_iff.1 hc).1
          have c5' := own_at hk5 k (by rw [Hf.up_length, HW.out]; exact hlt2)
          rw [Hf.up_get] at c5'
          have c6' := own_at hk6 k (by rw [Hf.codes_length, HW.out]; exact hlt2)
          have hcd : (Hf.codes wide)[k]'(by rw [Hf.codes_length, HW.out]; exact hlt2) = (Hf.code wide k : Nat) := by simp [Hf.codes]
          rw [hcd] at c6'
          have hl48 := Hf.getD_le H48.out k
          have hmt := Pr.manyTo_le wide k
          have HM : Hid (Pr.manyTo wide (k + 1) = if 0 < wide.getD k 0 then Pr.manyTo wide k + 1 else Pr.manyTo wide k) := rfl
          have HHD : Hid (Pr.headTo wide (k + 1) = if 0 < wide.getD k 0 then Pr.headTo wide k ++ [UInt8.ofNat k, UInt8.ofNat (wide.getD k 0)] else Pr.headTo wide k) := rfl
          clear hcd hk5 hk6
          by_cases hn : 0 < wide.getD k 0
          · have hcl : Hf.code wide k ≤ 281474976710656 := by
              rw [Hf.code_nxt]
              exact Hf.nxt_bound hl48 HG.out.sum
            have hbits := bits_any (wide.getD k 0) (Hf.code wide k) wr hcl hl48
            have hWS : (⟨(Pr.sb (Pr.wd (Hf.code wide k) (wide.getD k 0))).toArray⟩ : ByteArray) = Pr.wS wide k := rfl
            rw [hWS] at hbits
            have HM2 : Hid (Pr.manyTo wide (k + 1) = Pr.manyTo wide k + 1) := by show _ = _; rw [HM.out, if_pos hn]
            have HHD2 : Hid (Pr.headTo wide (k + 1) = Pr.headTo wide k ++ [UInt8.ofNat k, UInt8.ofNat (wide.getD k 0)]) := by show _ = _; rw [HHD.out, if_pos hn]
            generalize wide.getD k 0 = n at *
            generalize Hf.code wide k = cc at *
            clear HM HHD hWS
            go_wp2_with fail
            refine hbits.mono ?_
            rintro e w8 ⟨rfl, hb8⟩
            have hrow8 := row_below hrow.out hb8
            have f0 := hrow8.frozenAt k
            have f1 := own_text hrow8 k hlt2
            have HRS := store_text hrow8 k (Pr.wS wide k)
            have HRS' : Hid ((w8.setCell ⟨w6.heap.size, k, none⟩ (.string (Pr.wS wide k))).ownsRow w6.heap.size 9 1 (.slice (some ⟨w6.heap.size, 0, none⟩) 256 256) 256 (rowW fun i => if i < k + 1 then Pr.wS wide i else ⟨#[]⟩)) := by
              rw [show (rowW fun i => if i < k + 1 then Pr.wS wide i else ⟨#[]⟩) = rowW fun j => if j = k then Pr.wS wide k else if j < k then Pr.wS wide j else ⟨#[]⟩ from rowW_congr fun i _ => by
                by_cases e : i = k
                · subst e; rw [if_pos (by omega), if_pos rfl]
                · rw [if_neg e]
                  by_cases e2 : i < k
                  · rw [if_pos e2, if_pos (by omega)]
                  · rw [if_neg e2, if_neg (by omega)]]
              exact HRS
            have hB8 : Below w6.heap.size w6 w8 := hbel.out.trans (hb8.mono hbel.out.size)
            have HB8 : Hid (Below w6.heap.size w6 (w8.setCell ⟨w6.heap.size, k, none⟩ (.string (Pr.wS wide k)))) := hB8.setCell (Nat.le_refl _) _
            have hs8 := hB8.size
            have hst0 : ∀ W : World, (convert 26 9 (.slice (some ⟨W.heap.size, 0, none⟩) 2 2)).run Try.prog (W.alloc (.cells #[.int .u8 (k : Int), .int .u8 (n : Int)] 5)) = .ok (.string ⟨#[UInt8.ofNat k, UInt8.ofNat n]⟩) (W.alloc (.cells #[.int .u8 (k : Int), .int .u8 (n : Int)] 5)) := fun W => by
              have h := str_two W (UInt8.ofNat k) (UInt8.ofNat n)
              rw [UInt8.toNat_ofNat', UInt8.toNat_ofNat', Nat.mod_eq_of_lt (by omega), Nat.mod_eq_of_lt (by omega)] at h
              exact h
            have hHl : H.data.toList.length ≤ 512 := by rw [hH.out]; have := Pr.headTo_len wide k; omega
            have hcat := cat_bytes H [UInt8.ofNat k, UInt8.ofNat n] (by omega) (by simp)
            obtain ⟨H2, hH2⟩ : ∃ H2 : ByteArray, H2 = ⟨(H.data.toList ++ [UInt8.ofNat k, UInt8.ofNat n]).toArray⟩ := ⟨_, rfl⟩
            rw [← hH2] at hcat
            have HH2 : Hid (H2.data.toList = Pr.headTo wide (k + 1)) := by show _ = _; rw [hH2, HHD2.out, ← hH.out]
            have hk8 : IntKind.u8.wrap (k : Int) = (k : Int) := by simp only [IntKind.wrap, IntKind.bits, IntKind.signed]; simp; omega
            have hn8 : IntKind.u8.wrap (n : Int) = (n : Int) := by simp only [IntKind.wrap, IntKind.bits, IntKind.signed]; simp; omega
            have hst := hst0 (w8.setCell ⟨w6.heap.size, k, none⟩ (.string (Pr.wS wide k)))
            rw [show (w8.setCell ⟨w6.heap.size, k, none⟩ (.string (Pr.wS wide k))).heap.size = w8.heap.size by simp] at hst
            generalize Pr.wS wide k = wk at *
            clear hst0 hbits hb8 hrow hbel hrow8 HRS hB8 hH2 c5' c6' hH
            go_wp2_with fail
            go_roundw
            case rel => exact ⟨k + 1, H2, by omega, by go_num, rfl, HH2, by rw [HM2.out]; go_num, row_below HRS'.out ((Below.refl _ _).alloc (Nat.le_refl _) _), HB8.out.alloc (by simp; omega) _⟩
            case measure => simp only [intOf]; omega
          · have HM2 : Hid (Pr.manyTo wide (k + 1) = Pr.manyTo wide k) := by show _ = _; rw [HM.out, if_neg hn]
            have HHD2 : Hid (H.data.toList = Pr.headTo wide (k + 1)) := by show _ = _; rw [HHD.out, if_neg hn]; exact hH.out
            have HRS : Hid (wr.ownsRow w6.heap.size 9 1 (.slice (some ⟨w6.heap.size, 0, none⟩) 256 256) 256 (rowW fun i => if i < k + 1 then Pr.wS wide i else ⟨#[]⟩)) := by
              rw [show (rowW fun i => if i < k + 1 then Pr.wS wide i else ⟨#[]⟩) = rowW fun i => if i < k then Pr.wS wide i else ⟨#[]⟩ from rowW_congr fun i _ => by
                by_cases e2 : i < k
                · rw [if_pos e2, if_pos (by omega)]
                · rw [if_neg e2]
                  by_cases e : i < k + 1
                  · rw [if_pos e, show i = k by omega]; exact Pr.wS_none (by omega)
                  · rw [if_neg e]]
              exact hrow
            generalize wide.getD k 0 = n at *
            clear HM HHD hrow c6'
            go_wp2_with fail
            go_roundw
            case rel => exact ⟨k + 1, H, by omega, by go_num, rfl, HHD2, by rw [HM2.out], HRS, hbel⟩
            case measure => simp only [intOf]; omega
        · obtain rfl : k = 256 := by omega
          have hrowW : wr.ownsRow w6.heap.size 9 1 (.slice (some ⟨w6.heap.size, 0, none⟩) 256 256) 256 (rowW (Pr.wS wide)) := by
            rw [show rowW (Pr.wS wide) = (rowW fun i => if i < 256 then Pr.wS wide i else ⟨#[]⟩) from rowW_congr fun i hi => (if_pos hi).symm]
            exact hrow.out
          obtain ⟨W8, hW8⟩ : ∃ W8, W8 = wr.alloc (.cells #[.pointer none, .slice none 0 0] 38) := ⟨_, rfl⟩
          have hb8 : Below wr.heap.size wr W8 := by rw [hW8]; exact (Below.refl _ wr).alloc (Nat.le_refl _) _
          have hz8 : W8.heap.size = wr.heap.size + 1 := by rw [hW8]; simp
          obtain ⟨W9, cap9, hcv, hb9, hl9, hc9⟩ := conv_bytes W8 Tk
          have HBL : Hid (Bld W9 W9.heap.size wr.heap.size (Pr.sb (Pr.words wide ((Pr.dnB Tk.data.toList).take 0)))) := Bld.new wr W9 (by rw [← hW8]; exact hb9)
          have hb89 : Below wr.heap.size wr W9 := hb8.trans (hb9.mono (by omega))
          have HRW9 : Hid (W9.ownsRow w6.heap.size 9 1 (.slice (some ⟨w6.heap.size, 0, none⟩) 256 256) 256 (rowW (Pr.wS wide))) := row_below hrowW hb89
          have HB9 : Hid (Below w.heap.size w W9) := HB7.out.trans ((hbel.out.trans (hb89.mono hbel.out.size)).mono HB7.out.size)
          have HC9 : Hid (∀ j (hj : j < Tk.size), W9.cell? ⟨W8.heap.size, j, none⟩ = some (.int .u8 (Tk[j].toNat : Int))) := hc9
          have HL9 : Hid (w6.heap.size < wr.heap.size ∧ W8.heap.size = wr.heap.size + 1 ∧ W8.heap.size < W9.heap.size ∧ w.heap.size ≤ wr.heap.size) := by
            refine ⟨?_, hz8, hl9, ?_⟩
            · obtain ⟨cur, hc, _⟩ := own_block hrowW (g := w6.heap.size) rfl
              exact (Array.getElem?_eq_some_iff.1 hc).1
            · have h1 := HB7.out.size
              have h2 := hbel.out.size
              omega
          have HWL : Hid (∀ k, (Pr.words wide ((Pr.dnB Tk.data.toList).take k)).length ≤ 589824) := fun k => by
            have h1 := Pr.words_le (Hf.getD_le H48.out) ((Pr.dnB Tk.data.toList).take k)
            have h2 : ((Pr.dnB Tk.data.toList).take k).length ≤ (Pr.dnB Tk.data.toList).length := List.length_take_le' _ _
            have h3 : (Pr.dnB Tk.data.toList).length = Tk.size := by unfold Pr.dnB; rw [List.length_map, ← Lib.size_eq]
            omega
          clear hrow hrowW hb8 hb9 hl9 hc9 hb89 hbel HR6 HR56 HB7 hz8
          go_wp2_with fail
          rw [← hW8, hcv]
          simp only [Result.andThen]
          rw [Oper.upon_value]
          clear hcv
          clear hW8
          go_wp2_with fail
          generalize wr.heap.size = bb at *
          go_loopw [85] (fun i wx => ∃ k : Nat, k ≤ Tk.size ∧ i = .int .i64 k ∧ Hid (Bld wx W9.heap.size bb (Pr.sb (Pr.words wide ((Pr.dnB Tk.data.toList).take k)))) ∧ Hid (Kept (fun q => q ≠ bb ∧ q < W9.heap.size) W9 wx)) (fun i _ => Tk.size - (intOf i).toNat)
          case atStart => exact ⟨0, by omega, rfl, HBL, Kept.refl _ _⟩
          case round =>
            clear HBL
            obtain ⟨k, hk, rfl, hbl, hkp⟩ := hrel
            by_cases hlt : k < Tk.size
            · have hb256 := Tk[k].toNat_lt
              have cB := (cell_kept hkp.out HL9.out.2.2.1 (by have := HL9.out; omega) k).trans (HC9.out k hlt)
              have hrw := own_kept HRW9.out hkp.out fun g hg => by
                have e : w6.heap.size = g := by simpa [Value.ownBlock] using hg
                have := HL9.out
                omega
              have hsn : (Pr.dnB Tk.data.toList).take (k + 1) = (Pr.dnB Tk.data.toList).take k ++ [Tk[k].toNat] := by
                unfold Pr.dnB
                rw [← List.map_take, ← List.map_take, take_snoc Tk k hlt, List.map_append]
                rfl
              have HN : Hid (Pr.sb (Pr.words wide ((Pr.dnB Tk.data.toList).take (k + 1))) = Pr.sb (Pr.words wide ((Pr.dnB Tk.data.toList).take k)) ++ (Pr.wS wide Tk[k].toNat).data.toList) := by
                show _ = _
                rw [hsn, Pr.words_snoc, Pr.sb_append, Pr.wS_list]
              have hwl := HWL.out k
              have hl48 := Hf.getD_le H48.out Tk[k].toNat
              have hws := Pr.wS_size wide Tk[k].toNat
              have hsk := hkp.out.size
              generalize Tk[k] = b at *
              have cW := own_text hrw b.toNat hb256
              have hw := wstr_any W9.heap.size bb (Pr.sb (Pr.words wide ((Pr.dnB Tk.data.toList).take k))) (Pr.wS wide b.toNat) wr hbl.out (by rw [Pr.sb_length, hws]; omega) hsk
              rw [← HN.out] at hw
              generalize Pr.wS wide b.toNat = wb at *
              clear hsn hwl hws hrw HN hbl
              go_wp2_with fail
              refine hw.mono ?_
              rintro e w10 ⟨rfl, hbl2, hkp2⟩
              have HB2 : Hid (Bld w10 W9.heap.size bb (Pr.sb (Pr.words wide ((Pr.dnB Tk.data.toList).take (k + 1))))) := hbl2
              have HK2 : Hid (Kept (fun q => q ≠ bb ∧ q < W9.heap.size) W9 w10) := hkp.out.trans hkp2
              clear hw hbl2 hkp2 hkp cW cB
              go_wp2_with fail
              go_roundw
              case rel => exact ⟨k + 1, by omega, by go_num, HB2, HK2⟩
              case measure => simp only [intOf]; omega
            · obtain rfl : k = Tk.size := by omega
              have hbl := hbl.out
              rw [List.take_of_length_le (by unfold Pr.dnB; rw [List.length_map, ← Lib.size_eq]; exact Nat.le_refl _)] at hbl
              have hwl := HWL.out Tk.size
              rw [List.take_of_length_le (by unfold Pr.dnB; rw [List.length_map, ← Lib.size_eq]; exact Nat.le_refl _)] at hwl
              have hst := bstr_any W9.heap.size bb _ wr hbl hkp.out.size
              have HB10 : Hid (Below w.heap.size w wr) := HB9.out.trans (hkp.out.below HB9.out.size fun q hq => by have := HL9.out; omega)
              obtain ⟨BT, hBT⟩ : ∃ BT, Pr.words wide (Pr.dnB Tk.data.toList) = BT := ⟨_, rfl⟩
              have HBT : Hid (Pr.words wide (Pr.dnB Tk.data.toList) = BT) := hBT
              rw [hBT] at hst hwl
              obtain ⟨S1, hS1⟩ : ∃ S1 : ByteArray, S1 = ⟨(Pr.sb BT).toArray⟩ := ⟨_, rfl⟩
              rw [← hS1] at hst
              have HS1 : Hid (S1.data.toList = Pr.sb BT) := by rw [hS1]; exact rfl
              have HS1z : Hid (S1.size = BT.length) := by show _ = _; rw [Lib.size_eq, HS1.out, Pr.sb_length]
              have hS1z : S1.size ≤ 589824 := by rw [HS1z.out]; exact hwl
              clear hbl hkp hBT hS1 HRW9 HB9 HC9 HWL
              go_wp2_with fail
              refine hst.mono ?_
              rintro e w11 ⟨rfl, hb11⟩
              have HB11 : Hid (Below w.heap.size w w11) := HB10.out.trans (hb11.mono HL9.out.2.2.2)
              clear hst hb11 HB10 HL9
              obtain ⟨z, hz⟩ : ∃ z, (8 - BT.length % 8) % 8 = z := ⟨_, rfl⟩
              have hz8 : z < 8 := by omega
              have hzi : (-((S1.size : Int) % 8) % 8) = (z : Int) := by rw [HS1z.out]; omega
              have hrep := Try.strings_Repeat ⟨#[48]⟩ z w11 (by omega) (by show 1 * z ≤ _; omega)
              have hrl : Lib.repeatL (⟨#[48]⟩ : ByteArray).data.toList z = Pr.sb (Pr.zs BT.length) := by
                unfold Pr.zs Pr.sb
                rw [hz]
                exact repeat_zero z
              rw [hrl] at hrep
              obtain ⟨R2, hR2⟩ : ∃ R2 : ByteArray, R2 = ⟨(Pr.sb (Pr.zs BT.length)).toArray⟩ := ⟨_, rfl⟩
              have HAL : Hid ((BT ++ Pr.zs BT.length).length = 8 * ((BT.length + 7) / 8)) := by show _ = _; rw [List.length_append, Pr.zs_length]; omega
              have hcat := cat_bytes S1 (Pr.sb (Pr.zs BT.length)) (by rw [← Lib.size_eq]; omega) (by rw [Pr.sb_length, Pr.zs_length]; omega)
              obtain ⟨S2, hS2⟩ : ∃ S2 : ByteArray, S2 = ⟨(S1.data.toList ++ Pr.sb (Pr.zs BT.length)).toArray⟩ := ⟨_, rfl⟩
              rw [← hS2, ← hR2] at hcat
              rw [← hR2] at hrep
              have HBY : Hid (Pr.bytesN ((BT.length + 7) / 8) (BT ++ Pr.zs BT.length) = Pr.bytes BT) := rfl
              have HS2 : Hid (S2.data.toList = Pr.sb ((BT ++ Pr.zs BT.length).drop (8 * 0))) := by
                show _ = _
                rw [Nat.mul_zero, List.drop_zero, Pr.sb_append, ← HS1.out, hS2]
              have hK : (BT.length + 7) / 8 ≤ 80000 := by omega
              generalize BT ++ Pr.zs BT.length = AB at *
              generalize (BT.length + 7) / 8 = K at *
              clear hrl hR2 hS2 HS1 HS1z hwl hz
              go_wp2_with fail
              refine hrep.mono ?_
              rintro e w12 ⟨rfl, hb12⟩
              have HB12 : Hid (Below w.heap.size w w12) := HB11.out.trans (hb12.mono HB11.out.size)
              clear hrep hb12 HB11 hzi
              go_wp2_with fail
              generalize hbw : w12.heap.size = bw at *
              go_loopw [19, 20] (fun sv ov wx => ∃ (k : Nat) (S : ByteArray), k ≤ K ∧ sv = .string S ∧ Hid (S.data.toList = Pr.sb (AB.drop (8 * k))) ∧ wx.ownsRow bw 5 1 ov (Pr.upB (Pr.bytesN k AB)).length ((Pr.upB (Pr.bytesN k AB)).map B) ∧ Hid (Below bw w12 wx)) (fun sv _ _ => strSz sv)
              case atStart => exact ⟨0, S2, by omega, rfl, HS2, World.ownsRow_nil _ _ _ _, Below.refl _ _⟩
              case round =>
                obtain ⟨k, S, hk, rfl, hS, hown, hbel⟩ := hrel
                have HSz : Hid (S.size = 8 * (K - k)) := by show _ = _; rw [Lib.size_eq, hS.out, Pr.sb_length, List.length_drop, HAL.out]; omega
                obtain ⟨a20, c20, rfl⟩ := own_form hown
                have hob : (Pr.upB (Pr.bytesN k AB)).length ≤ 80000 := by rw [upB_length, Pr.bytesN_length]; omega
                by_cases hlt : k < K
                · have hS8' : 8 ≤ S.size := by rw [HSz.out]; omega
                  have hS8i : (8 : Int) ≤ (S.size : Int) := by omega
                  obtain ⟨S8, hS8⟩ : ∃ S8, S.extract 0 8 = S8 := ⟨_, rfl⟩
                  have HS8 : Hid (S8.data.toList = Pr.sb ((AB.drop (8 * k)).take 8)) := by
                    show _ = _
                    rw [← hS8, Lib.extract_data, List.drop_zero, hS.out]
                    simp [Pr.sb, List.map_take]
                  have hne : S.toList.isEmpty = false := by
                    rw [Lib.toList_data, List.isEmpty_eq_false_iff]
                    intro e
                    have h := Lib.size_eq S
                    rw [e, List.length_nil] at h
                    omega
                  have HS8z : Hid (S8.size = 8) := by show _ = _; rw [← hS8, ByteArray.size_extract]; omega
                  have HNX : Hid ((S.extract 8 S.size).data.toList = Pr.sb (AB.drop (8 * (k + 1)))) := by
                    show _ = _
                    rw [ext_toList, hS.out, show 8 * (k + 1) = 8 * k + 8 by omega, ← List.drop_drop]
                    simp [Pr.sb, List.map_drop]
                  have HNZ : Hid ((S.extract 8 S.size).size < S.size) := by show _ < _; rw [ByteArray.size_extract]; omega
                  have HBN : Hid (Pr.bytesN (k + 1) AB = Pr.bytesN k AB ++ [Pr.val ((AB.drop (8 * k)).take 8)]) := Pr.bytesN_snoc k AB
                  have HQL : Hid (((AB.drop (8 * k)).take 8).length = 8) := by show _ = _; rw [List.length_take, List.length_drop, HAL.out]; omega
                  generalize (AB.drop (8 * k)).take 8 = Q at *
                  obtain ⟨W5, cap5, hcv, hb5, hl5, hc5⟩ := conv_bytes wr S8
                  rw [HS8z.out] at hcv
                  have HC5 : Hid (∀ j, j < 8 → ∃ q : Nat, q < 2 ∧ W5.cell? ⟨wr.heap.size, j, none⟩ = some (.int .u8 (48 + (q : Int))) ∧ Pr.val (Q.take (j + 1)) = 2 * Pr.val (Q.take j) + q) := fun j hj => by
                    have h1 := hc5 j (by rw [HS8z.out]; exact hj)
                    have h2 := byte_get S8 j (by rw [HS8z.out]; exact hj)
                    rw [HS8.out] at h2
                    unfold Pr.sb at h2
                    have hq : j < Q.length := by rw [HQL.out]; exact hj
                    rw [List.getElem?_map, List.getElem?_eq_getElem hq] at h2
                    have h2 : (if Q[j] = true then (49 : UInt8) else 48) = S8[j]'(by rw [HS8z.out]; exact hj) := by simpa using h2
                    refine ⟨if Q[j] = true then 1 else 0, by split <;> omega, ?_, Pr.val_take hq⟩
                    rw [h1, ← h2]
                    cases Q[j] <;> rfl
                  have HO5 : Hid (W5.ownsRow bw 5 1 (.slice a20 (Pr.upB (Pr.bytesN k AB)).length c20) (Pr.upB (Pr.bytesN k AB)).length ((Pr.upB (Pr.bytesN k AB)).map B)) := row_below hown hb5
                  have hB5 : Below bw w12 W5 := hbel.out.trans (hb5.mono (by have := hbel.out.size; omega))
                  have HB5 : Hid (Below bw w12 W5) := hB5
                  have HW5 : Hid (bw ≤ W5.heap.size) := by show _ ≤ _; have := hB5.size; omega
                  clear hc5 hown hbel hb5 hl5 hS hB5
                  go_wp2_with fail
                  clear hcv
                  generalize wr.heap.size = b5 at *
                  go_loop [21, 112] (fun nv i => ∃ j : Nat, j ≤ 8 ∧ i = .int .i64 j ∧ nv = .int .i64 (Pr.val (Q.take j) : Nat)) (fun _ i => 8 - (intOf i).toNat)
                  case atStart => exact ⟨0, by omega, rfl, rfl⟩
                  case round =>
                    obtain ⟨j, hj, rfl, rfl⟩ := hrel
                    have hv := Pr.val_take_lt Q j
                    have hv2 : Pr.val (Q.take j) < 256 := Nat.lt_of_lt_of_le hv (Nat.pow_le_pow_right (by omega : 2 > 0) hj)
                    clear hv
                    by_cases hlt8 : j < 8
                    · obtain ⟨q, hq2, hc, hvn⟩ := HC5.out j hlt8
                      have HVN : Hid (Pr.val (Q.take (j + 1)) = 2 * Pr.val (Q.take j) + q) := hvn
                      clear hvn
                      generalize Pr.val (Q.take j) = V at *
                      go_wp2_with fail
                      go_round
                      case rel => exact ⟨j + 1, by omega, by go_num, by rw [HVN.out]; go_num⟩
                      case measure => simp only [intOf]; omega
                    · obtain rfl : j = 8 := by omega
                      have HV8 : Hid (Pr.val (Q.take 8) = Pr.val Q) := by show _ = _; rw [List.take_of_length_le (by rw [HQL.out]; exact Nat.le_refl _)]
                      have hrow5 := HO5.out
                      have hw5 := HW5.out
                      have HY : Hid (Pr.upB (Pr.bytesN (k + 1) AB) = Pr.upB (Pr.bytesN k AB) ++ [UInt8.ofNat (Pr.val (Q.take 8))]) := by show _ = _; rw [HBN.out, up_more, HV8.out]
                      generalize Pr.upB (Pr.bytesN k AB) = Z at *
                      generalize Pr.val (Q.take 8) = V at *
                      have hV8 : IntKind.u8.wrap (V : Int) = (V : Int) := by simp only [IntKind.wrap, IntKind.bits, IntKind.signed]; simp; omega
                      go_wp2_with (at_builtin; refine wpList_append_own _ rfl (.tmp 123) (.tmp 126) 26 rfl bw 5 i0 (.int .u8 0) 1 1 Try.underlying26 hi hz0 hz1 hz2 rfl (by decide) _ _ _ rfl (hrow5.alloc _) ⟨W5.heap.size, 0, none⟩ 1 1 [.int .u8 (V : Int)] rfl rfl ?p1 ?p2 ?p3 ?p4 ?p5 ?_)
                      case p2 => rfl
                      case p3 => unfold maxLen; omega
                      case p4 => omega
                      case p5 => omega
                      intro v6 w6x hown6 hgrow6 _
                      have HO6 : Hid (w6x.ownsRow bw 5 1 v6 (Pr.upB (Pr.bytesN (k + 1) AB)).length ((Pr.upB (Pr.bytesN (k + 1) AB)).map B)) := by
                        show w6x.ownsRow _ _ _ _ _ _
                        rw [HY.out]
                        refine own_byte ?_
                        rw [UInt8.toNat_ofNat', Nat.mod_eq_of_lt hv2]
                        exact hown6
                      have HB6 : Hid (Below bw w12 w6x) := (HB5.out.alloc (by omega) _).grown hgrow6 (by simp; omega) fun j hj => (hrow5.lt j hj).1
                      clear hown6 hgrow6 hrow5
                      go_wp2_with fail
                      exact ⟨⟨k + 1, S.extract 8 S.size, by omega, rfl, HNX, HO6.out, HB6⟩, HNZ.out⟩
                · obtain rfl : k = K := by omega
                  have hne : S.toList.isEmpty = true := by
                    have h1 : S.size = 0 := by rw [HSz.out]; omega
                    have h := Lib.size_eq S
                    rw [h1] at h
                    rw [Lib.toList_data, List.length_eq_zero_iff.1 h.symm]
                    rfl
                  have hB13 : Below w.heap.size w wr := HB12.out.trans (hbel.out.mono (by have := HB12.out.size; omega))
                  have HB13 : Hid (Below w.heap.size w wr) := hB13
                  clear hbel hB13 HB12 HAL
                  have hzs := HB13.out.size
                  have hmt := Pr.manyTo_le wide 256
                  obtain ⟨P1, hP1⟩ : ∃ P1 : ByteArray, P1 = ⟨(Nm.put s.size).toArray⟩ := ⟨_, rfl⟩
                  obtain ⟨P2, hP2⟩ : ∃ P2 : ByteArray, P2 = ⟨(Nm.put Tk.size).toArray⟩ := ⟨_, rfl⟩
                  obtain ⟨P3, hP3⟩ : ∃ P3 : ByteArray, P3 = ⟨(Nm.put (Pr.manyTo wide 256)).toArray⟩ := ⟨_, rfl⟩
                  obtain ⟨OT, hOT⟩ : ∃ OT : ByteArray, OT = ⟨(Pr.upB (Pr.bytesN k AB)).toArray⟩ := ⟨_, rfl⟩
                  have hq1 := fun W => rput_any s.size W (by omega) (by omega)
                  have hq2 := fun W => rput_any Tk.size W (by omega) (by omega)
                  have hq3 := fun W => rput_any (Pr.manyTo wide 256 : Nat) W (by omega) (by omega)
                  rw [Int.toNat_natCast, ← hP1] at hq1
                  rw [Int.toNat_natCast, ← hP2] at hq2
                  rw [Int.toNat_natCast, ← hP3] at hq3
                  have l1 : P1.data.toList = Nm.put s.size := by rw [hP1]
                  have l2 : P2.data.toList = Nm.put Tk.size := by rw [hP2]
                  have l3 : P3.data.toList = Nm.put (Pr.manyTo wide 256) := by rw [hP3]
                  have l4 : OT.data.toList = Pr.upB (Pr.bytesN k AB) := by rw [hOT]
                  have b1 := Pr.put_len s.size
                  have b2 := Pr.put_len Tk.size
                  have b3 := Pr.put_len (Pr.manyTo wide 256)
                  have b4 := Pr.headTo_len wide 256
                  have hstr : ∀ X : Since wr.heap.size wr, (convert 26 9 (.slice a20 (Pr.upB (Pr.bytesN k AB)).length c20)).run Try.prog X.val = .ok (.string OT) X.val := fun X => by
                    rw [hOT]
                    exact run_str (row_below hown X.property)
                  obtain ⟨A1, la1, r1⟩ := cat_two ⟨#[1]⟩ P1 (by simp) (by rw [l1]; omega)
                  obtain ⟨A2, la2, r2⟩ := cat_two A1 P2 (by rw [la1, l1, List.length_append]; simp; omega) (by rw [l2]; omega)
                  obtain ⟨A3, la3, r3⟩ := cat_two A2 P3 (by rw [la2, la1, l1, l2, List.length_append, List.length_append]; simp; omega) (by rw [l3]; omega)
                  obtain ⟨A4, la4, r4⟩ := cat_two A3 H (by rw [la3, la2, la1, l1, l2, l3, List.length_append, List.length_append, List.length_append]; simp; omega) (by rw [hH.out]; omega)
                  obtain ⟨A5, la5, r5⟩ := cat_two A4 OT (by rw [la4, la3, la2, la1, l1, l2, l3, hH.out, List.length_append, List.length_append, List.length_append, List.length_append]; simp; omega) (by rw [l4]; omega)
                  have HFIN : Hid (A5.data.toList = Pr.cod s.data.toList wide) := by
                    show _ = _
                    rw [la5, la4, la3, la2, la1, l1, l2, l3, l4, hH.out, Pr.cod_hdr, Pr.headTo_all, Pr.manyTo_all, ← HT.out, HBT.out, HBY.out]
                    unfold Pr.hdr
                    rw [← HT.out, ← Lib.size_eq, ← Lib.size_eq]
                    simp only [List.append_assoc]
                  clear la1 la2 la3 la4 la5 l1 l2 l3 l4 b1 b2 b3 b4 hP1 hP2 hP3 hOT hown HBT HBY hH hS HSz HG H48 HTW HT
                  have hne2 : Nonempty (Since wr.heap.size wr) := ⟨⟨wr, Below.refl _ _⟩⟩
                  generalize (Pr.upB (Pr.bytesN k AB)).length = ol at *
                  generalize Pr.manyTo wide 256 = M at *
                  go_wp2_with fail
                  refine wp_region_since (B := wr.heap.size) (W0 := wr) (by kernel_rfl) (by kernel_rfl) (Below.refl _ _) ?_
                  repeat (go_big_quiet_step (fail))
                  go_big_quiet_step (exact quiet_since _ (hq1 _))
                  repeat (go_big_quiet_step (fail))
                  go_big_quiet_step (exact quiet_since _ (hq2 _))
                  repeat (go_big_quiet_step (fail))
                  go_big_quiet_step (exact quiet_since _ (hq3 _))
                  repeat (go_big_quiet_step (fail))
                  refine wpQuiet_nil ?_
                  rintro w14 ⟨Y, rfl⟩
                  have HY : Hid (Below w.heap.size w Y.val) := HB13.out.trans (Y.property.mono hzs)
                  generalize Y.val = w15 at *
                  clear hstr hq1 hq2 hq3 r1 r2 r3 r4 r5
                  go_wp2_with fail
                  go_ret
                  exact ⟨wide, A5, rfl, HFIN.out, HHL'.out, HY.out⟩
end Go.Proofs.Ytgdkfaphbbdnbaa

namespace Go.Proofs.Ytgdkfaphbbdnbaa
open Go.RowKit
set_option maxRecDepth 4000

set_option maxHeartbeats 400000 in
theorem rpress_large (s : ByteArray) (w : World) (hs : 4096 < s.size) (_h : s.size ≤ 140737488351232) :
    Calls Try.prog 8 #[.string s] w fun e w' => e = .returned (.tuple #[.string ⟨#[]⟩, .int .i64 2]) ∧ w' = w := by
  go_enter Try.func8, Try.ntmps8
  go_wp2_with fail
  go_ret2
  exact ⟨rfl, rfl⟩

set_option maxHeartbeats 1000000 in
theorem rpress_any (s : ByteArray) (w : World) (hs : s.size ≤ 4096) :
    Calls Try.prog 8 #[.string s] w fun e w' => ∃ (wide : List Nat) (s' : ByteArray), e = .returned (.tuple #[.string s', .int .i64 0]) ∧ s'.data.toList = (Pr.pr s.data.toList wide).1 ∧ Hf.HL (Pr.tally (Pr.T s.data.toList)) wide ∧ Below w.heap.size w w' := by
  have h2 := rcoded_any s w hs
  obtain ⟨Pl, hPl, hcat⟩ := cat_two ⟨#[0]⟩ s (by simp) (by rw [← Lib.size_eq]; omega)
  have HP : Hid (Pl.data.toList = 0 :: s.data.toList) := hPl
  clear hPl
  go_enter Try.func8, Try.ntmps8
  go_wp2_with fail
  refine h2.mono ?_
  rintro e w2 ⟨wide, s2, rfl, hs2, hHL, hb2⟩
  have HB2 : Hid (Below w.heap.size w w2) := hb2
  have HL : Hid (Hf.HL (Pr.tally (Pr.T s.data.toList)) wide) := hHL
  have hz : s2.size = (Pr.cod s.data.toList wide).length := by rw [Lib.size_eq, hs2]
  have HR : Hid ((Pr.pr s.data.toList wide).1 = if s2.size ≤ s.size then Pr.cod s.data.toList wide else 0 :: s.data.toList) := by
    show _ = _
    unfold Pr.pr
    rw [if_neg (by rw [← Lib.size_eq]; omega), ← Lib.size_eq, hz]
    split <;> rfl
  have HS2 : Hid (s2.data.toList = Pr.cod s.data.toList wide) := hs2
  clear h2 hb2 hHL hz hs2
  by_cases hlt : s2.size ≤ s.size
  · have HR2 : Hid ((Pr.pr s.data.toList wide).1 = Pr.cod s.data.toList wide) := by show _ = _; rw [HR.out, if_pos hlt]
    clear HR
    go_wp2_with fail
    go_ret2
    exact ⟨wide, s2, rfl, by rw [HR2.out]; exact HS2.out, HL.out, HB2.out⟩
  · have HR2 : Hid ((Pr.pr s.data.toList wide).1 = 0 :: s.data.toList) := by show _ = _; rw [HR.out, if_neg hlt]
    clear HR
    go_wp2_with fail
    go_ret2
    exact ⟨wide, Pl, rfl, by rw [HR2.out]; exact HP.out, HL.out, HB2.out⟩
end Go.Proofs.Ytgdkfaphbbdnbaa
