/-
  DERIVED. GIVEN WITH THE SEED: THE CARDS: each row of YtlglkfnihjfnoaaDoorRows.lean that lists a variable, with what it lists TIED to the program's text (the seventh form; the later family's looks); each row that meets fmt, with fmt's text TOLD by the authors' own Lean function (tested against real Go, not proved from fmt's source: count such statements apart). THE CARD IS WHAT COUNTS. Prove the row's statement (the work); the ties are given (YtlglkfnihjfnoaaDoorTie.lean); close each card by the builder's one call (the guide's Derived/Test/ToyasCard.lean, 'card_holds'). Laid BY PROGRAM, IN A SANDBOX (cutbox-door.mjs). By AI agents, Wed Nov 11 2026. No macro, syntax, notation, axiom, sorry.
-/
import Derived.Test.YtlglkfnihjfnoaaDoorRows
import GoSem.ClaimSeven
namespace Go.Proofs.YtlglkfnihjfnoaaDoor
namespace Rows

/-- THE TIED CARD OF 'lumlaw.CivilSays'. -/
def civilSaysCard : Claim7 := { stood := { row := civilSaysRow, standIns := [], harness := (true, "cb04268052a74d183dff54bcbec4050dde140f3ebc98446645c63354834e8071"), looks := false }, kinds := [], alts := [], laidByText := true, laidKinds := [.data], laidTests := true, laidLooks := .later }
def CivilSaysCardSaid : Prop := Claim7.holds Tryd.pinned (.plain (OpenSpec.ofChange civilSaysSpec)) civilSaysCard

/-- THE TIED CARD OF 'lumlaw.CivilTexts'. -/
def civilTextsCard : Claim7 := { stood := { row := civilTextsRow, standIns := [], harness := (true, "cb04268052a74d183dff54bcbec4050dde140f3ebc98446645c63354834e8071"), looks := false }, kinds := [], alts := [], laidByText := true, laidKinds := [.data, .data, .data, .data, .data, .pinned], laidTests := true, laidLooks := .later }
def CivilTextsCardSaid : Prop := Claim7.holds Tryd.pinned (.plain (OpenSpec.ofChange civilTextsSpec)) civilTextsCard

/-- THE TIED CARD OF 'lumkeep.CivilBack'. -/
def civilBackCard : Claim7 := { stood := { row := civilBackRow, standIns := [], harness := (true, "cb04268052a74d183dff54bcbec4050dde140f3ebc98446645c63354834e8071"), looks := false }, kinds := [], alts := [], laidByText := true, laidKinds := [.data], laidTests := true, laidLooks := .later }
def CivilBackCardSaid : Prop := Claim7.holds Tryd.pinned (.plain (OpenSpec.ofChange civilBackSpec)) civilBackCard

/-- THE TIED CARD OF 'lumkeep.CivilNext'. -/
def civilNextCard : Claim7 := { stood := { row := civilNextRow, standIns := [], harness := (true, "cb04268052a74d183dff54bcbec4050dde140f3ebc98446645c63354834e8071"), looks := false }, kinds := [], alts := [], laidByText := true, laidKinds := [.data], laidTests := true, laidLooks := .later }
def CivilNextCardSaid : Prop := Claim7.holds Tryd.pinned (.plain (OpenSpec.ofChange civilNextSpec)) civilNextCard

/-- THE TIED CARD OF 'lumkeep.CivilWeek'. -/
def civilWeekCard : Claim7 := { stood := { row := civilWeekRow, standIns := [], harness := (true, "cb04268052a74d183dff54bcbec4050dde140f3ebc98446645c63354834e8071"), looks := false }, kinds := [], alts := [], laidByText := true, laidKinds := [.data], laidTests := true, laidLooks := .later }
def CivilWeekCardSaid : Prop := Claim7.holds Tryd.pinned (.plain (OpenSpec.ofChange civilWeekSpec)) civilWeekCard

/-- THE TIED CARD OF 'lumkeep.CivilEra'. -/
def civilEraCard : Claim7 := { stood := { row := civilEraRow, standIns := [], harness := (true, "cb04268052a74d183dff54bcbec4050dde140f3ebc98446645c63354834e8071"), looks := false }, kinds := [], alts := [], laidByText := true, laidKinds := [.data], laidTests := true, laidLooks := .later }
def CivilEraCardSaid : Prop := Claim7.holds Tryd.pinned (.plain (OpenSpec.ofChange civilEraSpec)) civilEraCard

/-- THE SECOND FORM's CARD OF 'lumlaw.CivilSays'. -/
def civilSaysUptoCard : Claim7 := { stood := { row := civilSaysUptoRow, standIns := [], harness := (true, "cb04268052a74d183dff54bcbec4050dde140f3ebc98446645c63354834e8071"), looks := false }, kinds := [], alts := [], laidByText := true, laidKinds := [.data], laidTests := true, laidLooks := .later }
def CivilSaysUptoCardSaid : Prop := Claim7.holds Tryd.pinned (.plain (OpenSpec.upto civilSaysSpec)) civilSaysUptoCard

/-- THE SECOND FORM's CARD OF 'lumlaw.CivilTexts'. -/
def civilTextsUptoCard : Claim7 := { stood := { row := civilTextsUptoRow, standIns := [], harness := (true, "cb04268052a74d183dff54bcbec4050dde140f3ebc98446645c63354834e8071"), looks := false }, kinds := [], alts := [], laidByText := true, laidKinds := [.data, .data, .data, .data, .data, .pinned], laidTests := true, laidLooks := .later }
def CivilTextsUptoCardSaid : Prop := Claim7.holds Tryd.pinned (.plain (OpenSpec.upto civilTextsSpec)) civilTextsUptoCard

/-- THE SECOND FORM's CARD OF 'lumkeep.CivilBack'. -/
def civilBackUptoCard : Claim7 := { stood := { row := civilBackUptoRow, standIns := [], harness := (true, "cb04268052a74d183dff54bcbec4050dde140f3ebc98446645c63354834e8071"), looks := false }, kinds := [], alts := [], laidByText := true, laidKinds := [.data], laidTests := true, laidLooks := .later }
def CivilBackUptoCardSaid : Prop := Claim7.holds Tryd.pinned (.plain (OpenSpec.upto civilBackSpec)) civilBackUptoCard

/-- THE SECOND FORM's CARD OF 'lumkeep.CivilNext'. -/
def civilNextUptoCard : Claim7 := { stood := { row := civilNextUptoRow, standIns := [], harness := (true, "cb04268052a74d183dff54bcbec4050dde140f3ebc98446645c63354834e8071"), looks := false }, kinds := [], alts := [], laidByText := true, laidKinds := [.data], laidTests := true, laidLooks := .later }
def CivilNextUptoCardSaid : Prop := Claim7.holds Tryd.pinned (.plain (OpenSpec.upto civilNextSpec)) civilNextUptoCard

/-- THE SECOND FORM's CARD OF 'lumkeep.CivilWeek'. -/
def civilWeekUptoCard : Claim7 := { stood := { row := civilWeekUptoRow, standIns := [], harness := (true, "cb04268052a74d183dff54bcbec4050dde140f3ebc98446645c63354834e8071"), looks := false }, kinds := [], alts := [], laidByText := true, laidKinds := [.data], laidTests := true, laidLooks := .later }
def CivilWeekUptoCardSaid : Prop := Claim7.holds Tryd.pinned (.plain (OpenSpec.upto civilWeekSpec)) civilWeekUptoCard

/-- THE SECOND FORM's CARD OF 'lumkeep.CivilEra'. -/
def civilEraUptoCard : Claim7 := { stood := { row := civilEraUptoRow, standIns := [], harness := (true, "cb04268052a74d183dff54bcbec4050dde140f3ebc98446645c63354834e8071"), looks := false }, kinds := [], alts := [], laidByText := true, laidKinds := [.data], laidTests := true, laidLooks := .later }
def CivilEraUptoCardSaid : Prop := Claim7.holds Tryd.pinned (.plain (OpenSpec.upto civilEraSpec)) civilEraUptoCard
end Rows
end Go.Proofs.YtlglkfnihjfnoaaDoor
