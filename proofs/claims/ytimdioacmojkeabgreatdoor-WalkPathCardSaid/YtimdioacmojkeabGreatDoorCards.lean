/-
  DERIVED. GIVEN WITH THE SEED: THE CARDS: each row of YtimdioacmojkeabGreatDoorRows.lean that lists a variable, with what it lists TIED to the program's text (the seventh form; the later family's looks); each row that meets fmt, with fmt's text TOLD by the authors' own Lean function (tested against real Go, not proved from fmt's source: count such statements apart). THE CARD IS WHAT COUNTS. Prove the row's statement (the work); the ties are given (YtimdioacmojkeabGreatDoorTie.lean); close each card by the builder's one call (the guide's Derived/Test/ToyasCard.lean, 'card_holds'). Laid BY PROGRAM, IN A SANDBOX (cutbox-door.mjs). By AI agents, Wed Nov 11 2026. No macro, syntax, notation, axiom, sorry.
-/
import Derived.Test.YtimdioacmojkeabGreatDoorRows
import GoSem.ClaimSeven
namespace Go.Proofs.YtimdioacmojkeabGreatDoor
namespace Rows

/-- THE TIED CARD OF 'lumkeep.WalkPath'. -/
def walkPathCard : Claim7 := { stood := { row := walkPathRow, standIns := [], harness := (true, "b52f5b20dcaec98012a8082a21d08d17bf4ccaed87479205693b4f1116ec7ddf"), looks := false }, kinds := [], alts := [], laidByText := true, laidKinds := [.data, .pinned], laidTests := true, laidLooks := .later }
def WalkPathCardSaid : Prop := Claim7.holds Tryz.pinned (.plain (OpenSpec.ofChange walkPathSpec)) walkPathCard

/-- THE TIED CARD OF 'lumkeep.WalkMore'. -/
def walkMoreCard : Claim7 := { stood := { row := walkMoreRow, standIns := [], harness := (true, "b52f5b20dcaec98012a8082a21d08d17bf4ccaed87479205693b4f1116ec7ddf"), looks := false }, kinds := [], alts := [], laidByText := true, laidKinds := [.data, .pinned], laidTests := true, laidLooks := .later }
def WalkMoreCardSaid : Prop := Claim7.holds Tryz.pinned (.plain (OpenSpec.ofChange walkMoreSpec)) walkMoreCard

/-- THE SECOND FORM's CARD OF 'lumkeep.WalkPath'. -/
def walkPathUptoCard : Claim7 := { stood := { row := walkPathUptoRow, standIns := [], harness := (true, "b52f5b20dcaec98012a8082a21d08d17bf4ccaed87479205693b4f1116ec7ddf"), looks := false }, kinds := [], alts := [], laidByText := true, laidKinds := [.data, .pinned], laidTests := true, laidLooks := .later }
def WalkPathUptoCardSaid : Prop := Claim7.holds Tryz.pinned (.plain (OpenSpec.upto walkPathSpec)) walkPathUptoCard

/-- THE SECOND FORM's CARD OF 'lumkeep.WalkMore'. -/
def walkMoreUptoCard : Claim7 := { stood := { row := walkMoreUptoRow, standIns := [], harness := (true, "b52f5b20dcaec98012a8082a21d08d17bf4ccaed87479205693b4f1116ec7ddf"), looks := false }, kinds := [], alts := [], laidByText := true, laidKinds := [.data, .pinned], laidTests := true, laidLooks := .later }
def WalkMoreUptoCardSaid : Prop := Claim7.holds Tryz.pinned (.plain (OpenSpec.upto walkMoreSpec)) walkMoreUptoCard
end Rows
end Go.Proofs.YtimdioacmojkeabGreatDoor
