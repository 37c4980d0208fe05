/-
  DERIVED. GIVEN WITH THE SEED: THE CARDS: each row of YthpcbbkpjggjbaaGreatDoorRows.lean that lists a variable, with what it lists TIED to the program's text (the seventh form; the later family's looks); each row that meets fmt, with fmt's text TOLD by the authors' own Lean function (tested against real Go, not proved from fmt's source: count such statements apart). THE CARD IS WHAT COUNTS. Prove the row's statement (the work); the ties are given (YthpcbbkpjggjbaaGreatDoorTie.lean); close each card by the builder's one call (the guide's Derived/Test/ToyasCard.lean, 'card_holds'). Laid BY PROGRAM, IN A SANDBOX (cutbox-door.mjs). By AI agents, Wed Nov 11 2026. No macro, syntax, notation, axiom, sorry.
-/
import Derived.Test.YthpcbbkpjggjbaaGreatDoorRows
import GoSem.ClaimSeven
namespace Go.Proofs.YthpcbbkpjggjbaaGreatDoor
namespace Rows

/-- THE TIED CARD OF 'lumkeep.DeltaOwn'. -/
def deltaOwnCard : Claim7 := { stood := { row := deltaOwnRow, standIns := [], harness := (true, "44fa39666065609ac158291fed79d5632669ef384dcd2497ad370427d53acfa1"), looks := false }, kinds := [], alts := [], laidByText := true, laidKinds := [.data, .pinned], laidTests := true, laidLooks := .later }
def DeltaOwnCardSaid : Prop := Claim7.holds Tryz.pinned (.plain (OpenSpec.ofChange deltaOwnSpec)) deltaOwnCard

/-- THE SECOND FORM's CARD OF 'lumkeep.DeltaOwn'. -/
def deltaOwnUptoCard : Claim7 := { stood := { row := deltaOwnUptoRow, standIns := [], harness := (true, "44fa39666065609ac158291fed79d5632669ef384dcd2497ad370427d53acfa1"), looks := false }, kinds := [], alts := [], laidByText := true, laidKinds := [.data, .pinned], laidTests := true, laidLooks := .later }
def DeltaOwnUptoCardSaid : Prop := Claim7.holds Tryz.pinned (.plain (OpenSpec.upto deltaOwnSpec)) deltaOwnUptoCard
end Rows
end Go.Proofs.YthpcbbkpjggjbaaGreatDoor
