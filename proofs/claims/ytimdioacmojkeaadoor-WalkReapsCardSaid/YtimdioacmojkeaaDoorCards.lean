/-
  DERIVED. GIVEN WITH THE SEED: THE CARDS: each row of YtimdioacmojkeaaDoorRows.lean that lists a variable, with what it lists TIED to the program's text (the seventh form; the later family's looks); each row that meets fmt, with fmt's text TOLD by the authors' own Lean function (tested against real Go, not proved from fmt's source: count such statements apart). THE CARD IS WHAT COUNTS. Prove the row's statement (the work); the ties are given (YtimdioacmojkeaaDoorTie.lean); close each card by the builder's one call (the guide's Derived/Test/ToyasCard.lean, 'card_holds'). Laid BY PROGRAM, IN A SANDBOX (cutbox-door.mjs). By AI agents, Wed Nov 11 2026. No macro, syntax, notation, axiom, sorry.
-/
import Derived.Test.YtimdioacmojkeaaDoorRows
import GoSem.ClaimSeven
namespace Go.Proofs.YtimdioacmojkeaaDoor
namespace Rows

/-- THE TIED CARD OF 'lumlaw.WalkReaps'. -/
def walkReapsCard : Claim7 := { stood := { row := walkReapsRow, standIns := [], harness := (true, "dc426eb2e19139106bc13874e16502fe025b6fafd12be4545983ddfc8cc4f828"), looks := false }, kinds := [], alts := [], laidByText := true, laidKinds := [.data, .pinned], laidTests := true, laidLooks := .later }
def WalkReapsCardSaid : Prop := Claim7.holds Tryd.pinned (.plain (OpenSpec.ofChange walkReapsSpec)) walkReapsCard

/-- THE TIED CARD OF 'lumlaw.WalkNeeds'. -/
def walkNeedsCard : Claim7 := { stood := { row := walkNeedsRow, standIns := [], harness := (true, "dc426eb2e19139106bc13874e16502fe025b6fafd12be4545983ddfc8cc4f828"), looks := false }, kinds := [], alts := [], laidByText := true, laidKinds := [.data, .pinned], laidTests := true, laidLooks := .later }
def WalkNeedsCardSaid : Prop := Claim7.holds Tryd.pinned (.plain (OpenSpec.ofChange walkNeedsSpec)) walkNeedsCard

/-- THE SECOND FORM's CARD OF 'lumlaw.WalkReaps'. -/
def walkReapsUptoCard : Claim7 := { stood := { row := walkReapsUptoRow, standIns := [], harness := (true, "dc426eb2e19139106bc13874e16502fe025b6fafd12be4545983ddfc8cc4f828"), looks := false }, kinds := [], alts := [], laidByText := true, laidKinds := [.data, .pinned], laidTests := true, laidLooks := .later }
def WalkReapsUptoCardSaid : Prop := Claim7.holds Tryd.pinned (.plain (OpenSpec.upto walkReapsSpec)) walkReapsUptoCard

/-- THE SECOND FORM's CARD OF 'lumlaw.WalkNeeds'. -/
def walkNeedsUptoCard : Claim7 := { stood := { row := walkNeedsUptoRow, standIns := [], harness := (true, "dc426eb2e19139106bc13874e16502fe025b6fafd12be4545983ddfc8cc4f828"), looks := false }, kinds := [], alts := [], laidByText := true, laidKinds := [.data, .pinned], laidTests := true, laidLooks := .later }
def WalkNeedsUptoCardSaid : Prop := Claim7.holds Tryd.pinned (.plain (OpenSpec.upto walkNeedsSpec)) walkNeedsUptoCard
end Rows
end Go.Proofs.YtimdioacmojkeaaDoor
