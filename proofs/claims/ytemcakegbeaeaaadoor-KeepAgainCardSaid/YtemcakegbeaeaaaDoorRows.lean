/-
  NARROWER THAN 'FOR EVERY INPUT', by the rows' own cells (each row's printed sentence says how): KeepSays: laid · KeepAgain: laid · KeepMore: laid · KeepFew: laid · KeepYears: laid.
  DERIVED. THE GIVEN ROWS OF THIS SEAT. 5 by the template 'for every input the law returns true; each argument reads behind the call as it read before'; 0 by the template 'total and deterministic' (their statements: YtemcakegbeaeaaaDoorTotals.lean).
  GIVEN WITH THE SEED: the statements are not yours to turn. If you find one false, say at which input.
  Laid BY PROGRAM, IN A SANDBOX (cutbox-rows.mjs): the forced cells as the released guide's own fill.sh prints them over the translation fb11f382ea738ff7… (all of the seat's roots in one cut). By AI agents, Wed Nov 11 2026. No macro, syntax, notation, axiom, sorry.
-/
import Derived.Test.YtemcakegbeaeaaaDoorChecked
import GoSem.Claim
import GoSem.ClaimJoined
import GoSem.ClaimMapViews
import Derived.JoinedTies
import Derived.KernelRfl
namespace Go.Proofs.YtemcakegbeaeaaaDoor
/- THE CELL 'sum', in the pinned program and in every row, IS THE sha256 OF THE DUMP (.gsa) THAT YtemcakegbeaeaaaDoorProg.lean LOADS. Nothing in Lean hashes anything: it is a label: what it is worth is what the hold of that sum in a sandbox is worth. -/
noncomputable def Tryd.pinned : Pinned := { name := "ytemcakegbeaeaaadoor", sum := "fb11f382ea738ff7414d652e71ddae903a72be0e671c79b754a0e32d6f7230df", checked := Tryd.checked }
namespace Rows
def none {H : Type} : Left H := { results := [], args := [] }

/- WHAT THE LISTED PACKAGE-LEVEL VARIABLES READ AS WHEN THE CALL BEGINS. Each datum BY PROGRAM (the guide's laid-datum.mjs) off the statement by which the dump's own 'gosem.cut.vars' lays the variable. In a bare row this is a premise. The card (YtemcakegbeaeaaaDoorCards.lean) ties it to the program's text. -/
def laid_lumberroom_civil_lengths {H : Type} : DataW H := .agg [.lit (.int .i64 31), .lit (.int .i64 28), .lit (.int .i64 31), .lit (.int .i64 30), .lit (.int .i64 31), .lit (.int .i64 30), .lit (.int .i64 31), .lit (.int .i64 31), .lit (.int .i64 30), .lit (.int .i64 31), .lit (.int .i64 30), .lit (.int .i64 31)]

/-- 'lumlaw.KeepSays': WHATEVER THE INPUT: true; the input reads as it did. -/
def keepSaysSpec : ChangeSpec := { name := "keepSays", fn := fun _ => fun
  | [d1, d2] => { results := [.lit (.bool true)], args := [d1, d2] }
  | _ => none }
def keepSaysRow : OpenClaim := { program := "ytemcakegbeaeaaadoor", sum := "fb11f382ea738ff7414d652e71ddae903a72be0e671c79b754a0e32d6f7230df", func := "lumberroom/lumlaw.KeepSays", spec := "keepSays", unfollowed := true, recurses := true, named := ["lumberroom/civil.lengths"], apart := false, laid := [("lumberroom/civil.lengths", laid_lumberroom_civil_lengths)] }
def KeepSaysSaid : Prop := keepSaysRow.holds Tryd.pinned (OpenSpec.ofChange keepSaysSpec)

/-- ITS FALSE NEIGHBOUR: 'it returns false'. Refute it at one input. -/
def keepSaysWrong : ChangeSpec := { name := "keepSays", fn := fun _ => fun
  | [d1, d2] => { results := [.lit (.bool false)], args := [d1, d2] }
  | _ => none }
def KeepSaysWrongFalsely : Prop := keepSaysRow.holds Tryd.pinned (OpenSpec.ofChange keepSaysWrong)

/-- 'lumkeep.KeepAgain': WHATEVER THE INPUT: true; the input reads as it did. -/
def keepAgainSpec : ChangeSpec := { name := "keepAgain", fn := fun _ => fun
  | [d1, d2] => { results := [.lit (.bool true)], args := [d1, d2] }
  | _ => none }
def keepAgainRow : OpenClaim := { program := "ytemcakegbeaeaaadoor", sum := "fb11f382ea738ff7414d652e71ddae903a72be0e671c79b754a0e32d6f7230df", func := "lumberroom/lumkeep.KeepAgain", spec := "keepAgain", unfollowed := true, recurses := true, named := ["lumberroom/civil.lengths"], apart := false, laid := [("lumberroom/civil.lengths", laid_lumberroom_civil_lengths)] }
def KeepAgainSaid : Prop := keepAgainRow.holds Tryd.pinned (OpenSpec.ofChange keepAgainSpec)

/-- ITS FALSE NEIGHBOUR: 'it returns false'. Refute it at one input. -/
def keepAgainWrong : ChangeSpec := { name := "keepAgain", fn := fun _ => fun
  | [d1, d2] => { results := [.lit (.bool false)], args := [d1, d2] }
  | _ => none }
def KeepAgainWrongFalsely : Prop := keepAgainRow.holds Tryd.pinned (OpenSpec.ofChange keepAgainWrong)

/-- 'lumkeep.KeepMore': WHATEVER THE INPUT: true; the input reads as it did. -/
def keepMoreSpec : ChangeSpec := { name := "keepMore", fn := fun _ => fun
  | [d1, d2, d3] => { results := [.lit (.bool true)], args := [d1, d2, d3] }
  | _ => none }
def keepMoreRow : OpenClaim := { program := "ytemcakegbeaeaaadoor", sum := "fb11f382ea738ff7414d652e71ddae903a72be0e671c79b754a0e32d6f7230df", func := "lumberroom/lumkeep.KeepMore", spec := "keepMore", unfollowed := true, recurses := true, named := ["lumberroom/civil.lengths"], apart := false, laid := [("lumberroom/civil.lengths", laid_lumberroom_civil_lengths)] }
def KeepMoreSaid : Prop := keepMoreRow.holds Tryd.pinned (OpenSpec.ofChange keepMoreSpec)

/-- ITS FALSE NEIGHBOUR: 'it returns false'. Refute it at one input. -/
def keepMoreWrong : ChangeSpec := { name := "keepMore", fn := fun _ => fun
  | [d1, d2, d3] => { results := [.lit (.bool false)], args := [d1, d2, d3] }
  | _ => none }
def KeepMoreWrongFalsely : Prop := keepMoreRow.holds Tryd.pinned (OpenSpec.ofChange keepMoreWrong)

/-- 'lumkeep.KeepFew': WHATEVER THE INPUT: true; the input reads as it did. -/
def keepFewSpec : ChangeSpec := { name := "keepFew", fn := fun _ => fun
  | [d1, d2] => { results := [.lit (.bool true)], args := [d1, d2] }
  | _ => none }
def keepFewRow : OpenClaim := { program := "ytemcakegbeaeaaadoor", sum := "fb11f382ea738ff7414d652e71ddae903a72be0e671c79b754a0e32d6f7230df", func := "lumberroom/lumkeep.KeepFew", spec := "keepFew", unfollowed := true, recurses := true, named := ["lumberroom/civil.lengths"], apart := false, laid := [("lumberroom/civil.lengths", laid_lumberroom_civil_lengths)] }
def KeepFewSaid : Prop := keepFewRow.holds Tryd.pinned (OpenSpec.ofChange keepFewSpec)

/-- ITS FALSE NEIGHBOUR: 'it returns false'. Refute it at one input. -/
def keepFewWrong : ChangeSpec := { name := "keepFew", fn := fun _ => fun
  | [d1, d2] => { results := [.lit (.bool false)], args := [d1, d2] }
  | _ => none }
def KeepFewWrongFalsely : Prop := keepFewRow.holds Tryd.pinned (OpenSpec.ofChange keepFewWrong)

/-- 'lumkeep.KeepYears': WHATEVER THE INPUT: true; the input reads as it did. -/
def keepYearsSpec : ChangeSpec := { name := "keepYears", fn := fun _ => fun
  | [d1, d2] => { results := [.lit (.bool true)], args := [d1, d2] }
  | _ => none }
def keepYearsRow : OpenClaim := { program := "ytemcakegbeaeaaadoor", sum := "fb11f382ea738ff7414d652e71ddae903a72be0e671c79b754a0e32d6f7230df", func := "lumberroom/lumkeep.KeepYears", spec := "keepYears", unfollowed := true, recurses := true, named := ["lumberroom/civil.lengths"], apart := false, laid := [("lumberroom/civil.lengths", laid_lumberroom_civil_lengths)] }
def KeepYearsSaid : Prop := keepYearsRow.holds Tryd.pinned (OpenSpec.ofChange keepYearsSpec)

/-- ITS FALSE NEIGHBOUR: 'it returns false'. Refute it at one input. -/
def keepYearsWrong : ChangeSpec := { name := "keepYears", fn := fun _ => fun
  | [d1, d2] => { results := [.lit (.bool false)], args := [d1, d2] }
  | _ => none }
def KeepYearsWrongFalsely : Prop := keepYearsRow.holds Tryd.pinned (OpenSpec.ofChange keepYearsWrong)

/- THE SECOND FORM. 'bulk': how many values and letters a reading holds, each counted each time it is reached (what is shared counts as often as it is met; a slice's spare places count too). A statement '..UptoSaid' is the law's where the arguments, and the package variables that the reading takes, are together of bulk at most 1048576: NARROWER than '..Said'. Prove '..Said' where nothing that the law and all that it calls make is longer than what came in: it says more and counts as full. Else prove '..UptoSaid'. A law counts once. -/
mutual
def uptoBulk {H : Type} : DataW H → Nat
  | .lit (.string bytes) => bytes.length + 1
  | .lit _ => 1
  | .nil => 1
  | .ptr d => uptoBulk d + 1
  | .slice elems spare => uptoBulkAll elems + uptoBulkAll spare + 1
  | .agg parts => uptoBulkAll parts + 1
  | .iface _ d => uptoBulk d + 1
  | .map entries => uptoBulkEntries entries + 1
  | .held _ => 1
def uptoBulkAll {H : Type} : List (DataW H) → Nat
  | [] => 0
  | d :: r => uptoBulk d + uptoBulkAll r
def uptoBulkEntries {H : Type} : List (Lit × DataW H) → Nat
  | [] => 0
  | x :: r => uptoBulkEntry x + uptoBulkEntries r
def uptoBulkEntry {H : Type} : Lit × DataW H → Nat
  | (.string bytes, d) => bytes.length + uptoBulk d + 1
  | (_, d) => uptoBulk d + 1
 end
def uptoSmall : (H : Type) → List (DataW H) → Bool := fun _ ds => decide (uptoBulkAll ds ≤ 1048576)
def OpenSpec.upto (s : _root_.Go.ChangeSpec) : _root_.Go.OpenSpec := { _root_.Go.OpenSpec.ofChange s with cond := some uptoSmall }

/-- 'lumlaw.KeepSays', WHERE WHAT IT READS IS OF BULK AT MOST 1048576: true; the input reads as it did. -/
def keepSaysUptoRow : OpenClaim := { program := "ytemcakegbeaeaaadoor", sum := "fb11f382ea738ff7414d652e71ddae903a72be0e671c79b754a0e32d6f7230df", func := "lumberroom/lumlaw.KeepSays", spec := "keepSays", unfollowed := true, recurses := true, named := ["lumberroom/civil.lengths"], apart := false, laid := [("lumberroom/civil.lengths", laid_lumberroom_civil_lengths)], narrowed := true }
def KeepSaysUptoSaid : Prop := keepSaysUptoRow.holds Tryd.pinned (OpenSpec.upto keepSaysSpec)

/-- 'lumkeep.KeepAgain', WHERE WHAT IT READS IS OF BULK AT MOST 1048576: true; the input reads as it did. -/
def keepAgainUptoRow : OpenClaim := { program := "ytemcakegbeaeaaadoor", sum := "fb11f382ea738ff7414d652e71ddae903a72be0e671c79b754a0e32d6f7230df", func := "lumberroom/lumkeep.KeepAgain", spec := "keepAgain", unfollowed := true, recurses := true, named := ["lumberroom/civil.lengths"], apart := false, laid := [("lumberroom/civil.lengths", laid_lumberroom_civil_lengths)], narrowed := true }
def KeepAgainUptoSaid : Prop := keepAgainUptoRow.holds Tryd.pinned (OpenSpec.upto keepAgainSpec)

/-- 'lumkeep.KeepMore', WHERE WHAT IT READS IS OF BULK AT MOST 1048576: true; the input reads as it did. -/
def keepMoreUptoRow : OpenClaim := { program := "ytemcakegbeaeaaadoor", sum := "fb11f382ea738ff7414d652e71ddae903a72be0e671c79b754a0e32d6f7230df", func := "lumberroom/lumkeep.KeepMore", spec := "keepMore", unfollowed := true, recurses := true, named := ["lumberroom/civil.lengths"], apart := false, laid := [("lumberroom/civil.lengths", laid_lumberroom_civil_lengths)], narrowed := true }
def KeepMoreUptoSaid : Prop := keepMoreUptoRow.holds Tryd.pinned (OpenSpec.upto keepMoreSpec)

/-- 'lumkeep.KeepFew', WHERE WHAT IT READS IS OF BULK AT MOST 1048576: true; the input reads as it did. -/
def keepFewUptoRow : OpenClaim := { program := "ytemcakegbeaeaaadoor", sum := "fb11f382ea738ff7414d652e71ddae903a72be0e671c79b754a0e32d6f7230df", func := "lumberroom/lumkeep.KeepFew", spec := "keepFew", unfollowed := true, recurses := true, named := ["lumberroom/civil.lengths"], apart := false, laid := [("lumberroom/civil.lengths", laid_lumberroom_civil_lengths)], narrowed := true }
def KeepFewUptoSaid : Prop := keepFewUptoRow.holds Tryd.pinned (OpenSpec.upto keepFewSpec)

/-- 'lumkeep.KeepYears', WHERE WHAT IT READS IS OF BULK AT MOST 1048576: true; the input reads as it did. -/
def keepYearsUptoRow : OpenClaim := { program := "ytemcakegbeaeaaadoor", sum := "fb11f382ea738ff7414d652e71ddae903a72be0e671c79b754a0e32d6f7230df", func := "lumberroom/lumkeep.KeepYears", spec := "keepYears", unfollowed := true, recurses := true, named := ["lumberroom/civil.lengths"], apart := false, laid := [("lumberroom/civil.lengths", laid_lumberroom_civil_lengths)], narrowed := true }
def KeepYearsUptoSaid : Prop := keepYearsUptoRow.holds Tryd.pinned (OpenSpec.upto keepYearsSpec)

end Rows
end Go.Proofs.YtemcakegbeaeaaaDoor
