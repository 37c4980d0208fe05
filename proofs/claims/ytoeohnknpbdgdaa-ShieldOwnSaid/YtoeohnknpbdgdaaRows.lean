/-
  No cell of these rows narrows 'for every input' (looked for: loops, veiled, ifaces, maps, wideKeys, modest, calm, conditions, laid).
  DERIVED. THE GIVEN ROWS OF THIS SEAT. 4 by the template 'for every input the law returns true; each argument reads behind the call as it read before'; 0 by the template 'total and deterministic' (their statements: YtoeohnknpbdgdaaTotals.lean).
  GIVEN WITH THE SEED: the statements are not yours to turn. If you find one false, say at which input.
  Laid BY PROGRAM, IN A SANDBOX (cutbox-rows.mjs): the forced cells as the released guide's own fill.sh prints them over the translation bb449ca7c5d92cba… (all of the seat's roots in one cut). By AI agents, Wed Nov 11 2026. No macro, syntax, notation, axiom, sorry.
-/
import Derived.Test.YtoeohnknpbdgdaaChecked
import GoSem.Claim
import GoSem.ClaimJoined
import GoSem.ClaimMapViews
import Derived.JoinedTies
import Derived.KernelRfl
namespace Go.Proofs.Ytoeohnknpbdgdaa
/- THE CELL 'sum', in the pinned program and in every row, IS THE sha256 OF THE DUMP (.gsa) THAT YtoeohnknpbdgdaaProg.lean LOADS. Nothing in Lean hashes anything: it is a label: what it is worth is what the hold of that sum in a sandbox is worth. -/
noncomputable def Try.pinned : Pinned := { name := "ytoeohnknpbdgdaa", sum := "bb449ca7c5d92cbaa0bc6dc9eda2fd882f4a039e60995736ee3017049b172da2", checked := Try.checked }
namespace Rows
def none {H : Type} : Left H := { results := [], args := [] }

/-- 'lumlaw.ShieldGuards': WHATEVER THE INPUT: true; the input reads as it did. -/
def shieldGuardsSpec : ChangeSpec := { name := "shieldGuards", fn := fun _ => fun
  | [d1, d2] => { results := [.lit (.bool true)], args := [d1, d2] }
  | _ => none }
def shieldGuardsRow : OpenClaim := { program := "ytoeohnknpbdgdaa", sum := "bb449ca7c5d92cbaa0bc6dc9eda2fd882f4a039e60995736ee3017049b172da2", func := "lumberroom/lumlaw.ShieldGuards", spec := "shieldGuards", apart := false }
def ShieldGuardsSaid : Prop := shieldGuardsRow.holds Try.pinned (OpenSpec.ofChange shieldGuardsSpec)

/-- ITS FALSE NEIGHBOUR: 'it returns false'. Refute it at one input. -/
def shieldGuardsWrong : ChangeSpec := { name := "shieldGuards", fn := fun _ => fun
  | [d1, d2] => { results := [.lit (.bool false)], args := [d1, d2] }
  | _ => none }
def ShieldGuardsWrongFalsely : Prop := shieldGuardsRow.holds Try.pinned (OpenSpec.ofChange shieldGuardsWrong)

/-- 'lumlaw.ShieldMends': WHATEVER THE INPUT: true; the input reads as it did. -/
def shieldMendsSpec : ChangeSpec := { name := "shieldMends", fn := fun _ => fun
  | [d1, d2] => { results := [.lit (.bool true)], args := [d1, d2] }
  | _ => none }
def shieldMendsRow : OpenClaim := { program := "ytoeohnknpbdgdaa", sum := "bb449ca7c5d92cbaa0bc6dc9eda2fd882f4a039e60995736ee3017049b172da2", func := "lumberroom/lumlaw.ShieldMends", spec := "shieldMends", unfollowed := true, recurses := true, apart := false }
def ShieldMendsSaid : Prop := shieldMendsRow.holds Try.pinned (OpenSpec.ofChange shieldMendsSpec)

/-- ITS FALSE NEIGHBOUR: 'it returns false'. Refute it at one input. -/
def shieldMendsWrong : ChangeSpec := { name := "shieldMends", fn := fun _ => fun
  | [d1, d2] => { results := [.lit (.bool false)], args := [d1, d2] }
  | _ => none }
def ShieldMendsWrongFalsely : Prop := shieldMendsRow.holds Try.pinned (OpenSpec.ofChange shieldMendsWrong)

/-- 'lumkeep.ShieldAny': WHATEVER THE INPUT: true; the input reads as it did. -/
def shieldAnySpec : ChangeSpec := { name := "shieldAny", fn := fun _ => fun
  | [d1, d2, d3] => { results := [.lit (.bool true)], args := [d1, d2, d3] }
  | _ => none }
def shieldAnyRow : OpenClaim := { program := "ytoeohnknpbdgdaa", sum := "bb449ca7c5d92cbaa0bc6dc9eda2fd882f4a039e60995736ee3017049b172da2", func := "lumberroom/lumkeep.ShieldAny", spec := "shieldAny", apart := false }
def ShieldAnySaid : Prop := shieldAnyRow.holds Try.pinned (OpenSpec.ofChange shieldAnySpec)

/-- ITS FALSE NEIGHBOUR: 'it returns false'. Refute it at one input. -/
def shieldAnyWrong : ChangeSpec := { name := "shieldAny", fn := fun _ => fun
  | [d1, d2, d3] => { results := [.lit (.bool false)], args := [d1, d2, d3] }
  | _ => none }
def ShieldAnyWrongFalsely : Prop := shieldAnyRow.holds Try.pinned (OpenSpec.ofChange shieldAnyWrong)

/-- 'lumkeep.ShieldOwn': WHATEVER THE INPUT: true; the input reads as it did. -/
def shieldOwnSpec : ChangeSpec := { name := "shieldOwn", fn := fun _ => fun
  | [d1, d2, d3] => { results := [.lit (.bool true)], args := [d1, d2, d3] }
  | _ => none }
def shieldOwnRow : OpenClaim := { program := "ytoeohnknpbdgdaa", sum := "bb449ca7c5d92cbaa0bc6dc9eda2fd882f4a039e60995736ee3017049b172da2", func := "lumberroom/lumkeep.ShieldOwn", spec := "shieldOwn", apart := false }
def ShieldOwnSaid : Prop := shieldOwnRow.holds Try.pinned (OpenSpec.ofChange shieldOwnSpec)

/-- ITS FALSE NEIGHBOUR: 'it returns false'. Refute it at one input. -/
def shieldOwnWrong : ChangeSpec := { name := "shieldOwn", fn := fun _ => fun
  | [d1, d2, d3] => { results := [.lit (.bool false)], args := [d1, d2, d3] }
  | _ => none }
def ShieldOwnWrongFalsely : Prop := shieldOwnRow.holds Try.pinned (OpenSpec.ofChange shieldOwnWrong)

/- THE SECOND FORM. 'bulk': how many values and letters a reading holds, each counted each time it is reached (what is shared counts as often as it is met; a slice's spare places count too). A statement '..UptoSaid' is the law's where the arguments, and the package variables that the reading takes, are together of bulk at most 1048576: NARROWER than '..Said'. Prove '..Said' where nothing that the law and all that it calls make is longer than what came in: it says more and counts as full. Else prove '..UptoSaid'. A law counts once. -/
mutual
def uptoBulk {H : Type} : DataW H → Nat
  | .lit (.string bytes) => bytes.length + 1
  | .lit _ => 1
  | .nil => 1
  | .ptr d => uptoBulk d + 1
  | .slice elems spare => uptoBulkAll elems + uptoBulkAll spare + 1
  | .agg parts => uptoBulkAll parts + 1
  | .iface _ d => uptoBulk d + 1
  | .map entries => uptoBulkEntries entries + 1
  | .held _ => 1
def uptoBulkAll {H : Type} : List (DataW H) → Nat
  | [] => 0
  | d :: r => uptoBulk d + uptoBulkAll r
def uptoBulkEntries {H : Type} : List (Lit × DataW H) → Nat
  | [] => 0
  | x :: r => uptoBulkEntry x + uptoBulkEntries r
def uptoBulkEntry {H : Type} : Lit × DataW H → Nat
  | (.string bytes, d) => bytes.length + uptoBulk d + 1
  | (_, d) => uptoBulk d + 1
 end
def uptoSmall : (H : Type) → List (DataW H) → Bool := fun _ ds => decide (uptoBulkAll ds ≤ 1048576)
def OpenSpec.upto (s : _root_.Go.ChangeSpec) : _root_.Go.OpenSpec := { _root_.Go.OpenSpec.ofChange s with cond := some uptoSmall }

/-- 'lumlaw.ShieldGuards', WHERE WHAT IT READS IS OF BULK AT MOST 1048576: true; the input reads as it did. -/
def shieldGuardsUptoRow : OpenClaim := { program := "ytoeohnknpbdgdaa", sum := "bb449ca7c5d92cbaa0bc6dc9eda2fd882f4a039e60995736ee3017049b172da2", func := "lumberroom/lumlaw.ShieldGuards", spec := "shieldGuards", apart := false, narrowed := true }
def ShieldGuardsUptoSaid : Prop := shieldGuardsUptoRow.holds Try.pinned (OpenSpec.upto shieldGuardsSpec)

/-- 'lumlaw.ShieldMends', WHERE WHAT IT READS IS OF BULK AT MOST 1048576: true; the input reads as it did. -/
def shieldMendsUptoRow : OpenClaim := { program := "ytoeohnknpbdgdaa", sum := "bb449ca7c5d92cbaa0bc6dc9eda2fd882f4a039e60995736ee3017049b172da2", func := "lumberroom/lumlaw.ShieldMends", spec := "shieldMends", unfollowed := true, recurses := true, apart := false, narrowed := true }
def ShieldMendsUptoSaid : Prop := shieldMendsUptoRow.holds Try.pinned (OpenSpec.upto shieldMendsSpec)

/-- 'lumkeep.ShieldAny', WHERE WHAT IT READS IS OF BULK AT MOST 1048576: true; the input reads as it did. -/
def shieldAnyUptoRow : OpenClaim := { program := "ytoeohnknpbdgdaa", sum := "bb449ca7c5d92cbaa0bc6dc9eda2fd882f4a039e60995736ee3017049b172da2", func := "lumberroom/lumkeep.ShieldAny", spec := "shieldAny", apart := false, narrowed := true }
def ShieldAnyUptoSaid : Prop := shieldAnyUptoRow.holds Try.pinned (OpenSpec.upto shieldAnySpec)

/-- 'lumkeep.ShieldOwn', WHERE WHAT IT READS IS OF BULK AT MOST 1048576: true; the input reads as it did. -/
def shieldOwnUptoRow : OpenClaim := { program := "ytoeohnknpbdgdaa", sum := "bb449ca7c5d92cbaa0bc6dc9eda2fd882f4a039e60995736ee3017049b172da2", func := "lumberroom/lumkeep.ShieldOwn", spec := "shieldOwn", apart := false, narrowed := true }
def ShieldOwnUptoSaid : Prop := shieldOwnUptoRow.holds Try.pinned (OpenSpec.upto shieldOwnSpec)

end Rows
end Go.Proofs.Ytoeohnknpbdgdaa
