/-
  DERIVED. GIVEN WITH THE SEED: THE CARDS: each row of YtimdioacmojkeaaGreatDoorRows.lean that lists a variable, with what it lists TIED to the program's text (the seventh form; the later family's looks); each row that meets fmt, with fmt's text TOLD by the authors' own Lean function (tested against real Go, not proved from fmt's source: count such statements apart). THE CARD IS WHAT COUNTS. Prove the row's statement (the work); the ties are given (YtimdioacmojkeaaGreatDoorTie.lean); close each card by the builder's one call (the guide's Derived/Test/ToyasCard.lean, 'card_holds'). Laid BY PROGRAM, IN A SANDBOX (cutbox-door.mjs). By AI agents, Wed Nov 11 2026. No macro, syntax, notation, axiom, sorry.
-/
import Derived.Test.YtimdioacmojkeaaGreatDoorRows
import GoSem.ClaimSeven
namespace Go.Proofs.YtimdioacmojkeaaGreatDoor
namespace Rows

/-- THE TIED CARD OF 'lumlaw.WalkPlants'. -/
def walkPlantsCard : Claim7 := { stood := { row := walkPlantsRow, standIns := [], harness := (true, "03c62598bd60cd6e7c896f9186b0a361fa38a5d98181453140e18b00916a58d8"), looks := false }, kinds := [], alts := [], laidByText := true, laidKinds := [.data, .pinned], laidTests := true, laidLooks := .later }
def WalkPlantsCardSaid : Prop := Claim7.holds Tryz.pinned (.plain (OpenSpec.ofChange walkPlantsSpec)) walkPlantsCard

/-- THE TIED CARD OF 'lumkeep.WalkBack'. -/
def walkBackCard : Claim7 := { stood := { row := walkBackRow, standIns := [], harness := (true, "03c62598bd60cd6e7c896f9186b0a361fa38a5d98181453140e18b00916a58d8"), looks := false }, kinds := [], alts := [], laidByText := true, laidKinds := [.data, .pinned], laidTests := true, laidLooks := .later }
def WalkBackCardSaid : Prop := Claim7.holds Tryz.pinned (.plain (OpenSpec.ofChange walkBackSpec)) walkBackCard

/-- THE TIED CARD OF 'lumkeep.WalkRoot'. -/
def walkRootCard : Claim7 := { stood := { row := walkRootRow, standIns := [], harness := (true, "03c62598bd60cd6e7c896f9186b0a361fa38a5d98181453140e18b00916a58d8"), looks := false }, kinds := [], alts := [], laidByText := true, laidKinds := [.data, .pinned], laidTests := true, laidLooks := .later }
def WalkRootCardSaid : Prop := Claim7.holds Tryz.pinned (.plain (OpenSpec.ofChange walkRootSpec)) walkRootCard

/-- THE TIED CARD OF 'lumkeep.WalkOnce'. -/
def walkOnceCard : Claim7 := { stood := { row := walkOnceRow, standIns := [], harness := (true, "03c62598bd60cd6e7c896f9186b0a361fa38a5d98181453140e18b00916a58d8"), looks := false }, kinds := [], alts := [], laidByText := true, laidKinds := [.data, .pinned], laidTests := true, laidLooks := .later }
def WalkOnceCardSaid : Prop := Claim7.holds Tryz.pinned (.plain (OpenSpec.ofChange walkOnceSpec)) walkOnceCard

/-- THE SECOND FORM's CARD OF 'lumlaw.WalkPlants'. -/
def walkPlantsUptoCard : Claim7 := { stood := { row := walkPlantsUptoRow, standIns := [], harness := (true, "03c62598bd60cd6e7c896f9186b0a361fa38a5d98181453140e18b00916a58d8"), looks := false }, kinds := [], alts := [], laidByText := true, laidKinds := [.data, .pinned], laidTests := true, laidLooks := .later }
def WalkPlantsUptoCardSaid : Prop := Claim7.holds Tryz.pinned (.plain (OpenSpec.upto walkPlantsSpec)) walkPlantsUptoCard

/-- THE SECOND FORM's CARD OF 'lumkeep.WalkBack'. -/
def walkBackUptoCard : Claim7 := { stood := { row := walkBackUptoRow, standIns := [], harness := (true, "03c62598bd60cd6e7c896f9186b0a361fa38a5d98181453140e18b00916a58d8"), looks := false }, kinds := [], alts := [], laidByText := true, laidKinds := [.data, .pinned], laidTests := true, laidLooks := .later }
def WalkBackUptoCardSaid : Prop := Claim7.holds Tryz.pinned (.plain (OpenSpec.upto walkBackSpec)) walkBackUptoCard

/-- THE SECOND FORM's CARD OF 'lumkeep.WalkRoot'. -/
def walkRootUptoCard : Claim7 := { stood := { row := walkRootUptoRow, standIns := [], harness := (true, "03c62598bd60cd6e7c896f9186b0a361fa38a5d98181453140e18b00916a58d8"), looks := false }, kinds := [], alts := [], laidByText := true, laidKinds := [.data, .pinned], laidTests := true, laidLooks := .later }
def WalkRootUptoCardSaid : Prop := Claim7.holds Tryz.pinned (.plain (OpenSpec.upto walkRootSpec)) walkRootUptoCard

/-- THE SECOND FORM's CARD OF 'lumkeep.WalkOnce'. -/
def walkOnceUptoCard : Claim7 := { stood := { row := walkOnceUptoRow, standIns := [], harness := (true, "03c62598bd60cd6e7c896f9186b0a361fa38a5d98181453140e18b00916a58d8"), looks := false }, kinds := [], alts := [], laidByText := true, laidKinds := [.data, .pinned], laidTests := true, laidLooks := .later }
def WalkOnceUptoCardSaid : Prop := Claim7.holds Tryz.pinned (.plain (OpenSpec.upto walkOnceSpec)) walkOnceUptoCard
end Rows
end Go.Proofs.YtimdioacmojkeaaGreatDoor
