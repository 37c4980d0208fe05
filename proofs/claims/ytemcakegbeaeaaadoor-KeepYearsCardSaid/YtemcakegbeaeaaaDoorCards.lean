/-
  DERIVED. GIVEN WITH THE SEED: THE CARDS: each row of YtemcakegbeaeaaaDoorRows.lean that lists a variable, with what it lists TIED to the program's text (the seventh form; the later family's looks); each row that meets fmt, with fmt's text TOLD by the authors' own Lean function (tested against real Go, not proved from fmt's source: count such statements apart). THE CARD IS WHAT COUNTS. Prove the row's statement (the work); the ties are given (YtemcakegbeaeaaaDoorTie.lean); close each card by the builder's one call (the guide's Derived/Test/ToyasCard.lean, 'card_holds'). Laid BY PROGRAM, IN A SANDBOX (cutbox-door.mjs). By AI agents, Wed Nov 11 2026. No macro, syntax, notation, axiom, sorry.
-/
import Derived.Test.YtemcakegbeaeaaaDoorRows
import GoSem.ClaimSeven
namespace Go.Proofs.YtemcakegbeaeaaaDoor
namespace Rows

/-- THE TIED CARD OF 'lumlaw.KeepSays'. -/
def keepSaysCard : Claim7 := { stood := { row := keepSaysRow, standIns := [], harness := (true, "84a6aba3561c5e14daca56844eaab35ac9025fec0e0700eb7e576f68a3e55fcb"), looks := false }, kinds := [], alts := [], laidByText := true, laidKinds := [.data], laidTests := true, laidLooks := .later }
def KeepSaysCardSaid : Prop := Claim7.holds Tryd.pinned (.plain (OpenSpec.ofChange keepSaysSpec)) keepSaysCard

/-- THE TIED CARD OF 'lumkeep.KeepAgain'. -/
def keepAgainCard : Claim7 := { stood := { row := keepAgainRow, standIns := [], harness := (true, "84a6aba3561c5e14daca56844eaab35ac9025fec0e0700eb7e576f68a3e55fcb"), looks := false }, kinds := [], alts := [], laidByText := true, laidKinds := [.data], laidTests := true, laidLooks := .later }
def KeepAgainCardSaid : Prop := Claim7.holds Tryd.pinned (.plain (OpenSpec.ofChange keepAgainSpec)) keepAgainCard

/-- THE TIED CARD OF 'lumkeep.KeepMore'. -/
def keepMoreCard : Claim7 := { stood := { row := keepMoreRow, standIns := [], harness := (true, "84a6aba3561c5e14daca56844eaab35ac9025fec0e0700eb7e576f68a3e55fcb"), looks := false }, kinds := [], alts := [], laidByText := true, laidKinds := [.data], laidTests := true, laidLooks := .later }
def KeepMoreCardSaid : Prop := Claim7.holds Tryd.pinned (.plain (OpenSpec.ofChange keepMoreSpec)) keepMoreCard

/-- THE TIED CARD OF 'lumkeep.KeepFew'. -/
def keepFewCard : Claim7 := { stood := { row := keepFewRow, standIns := [], harness := (true, "84a6aba3561c5e14daca56844eaab35ac9025fec0e0700eb7e576f68a3e55fcb"), looks := false }, kinds := [], alts := [], laidByText := true, laidKinds := [.data], laidTests := true, laidLooks := .later }
def KeepFewCardSaid : Prop := Claim7.holds Tryd.pinned (.plain (OpenSpec.ofChange keepFewSpec)) keepFewCard

/-- THE TIED CARD OF 'lumkeep.KeepYears'. -/
def keepYearsCard : Claim7 := { stood := { row := keepYearsRow, standIns := [], harness := (true, "84a6aba3561c5e14daca56844eaab35ac9025fec0e0700eb7e576f68a3e55fcb"), looks := false }, kinds := [], alts := [], laidByText := true, laidKinds := [.data], laidTests := true, laidLooks := .later }
def KeepYearsCardSaid : Prop := Claim7.holds Tryd.pinned (.plain (OpenSpec.ofChange keepYearsSpec)) keepYearsCard

/-- THE SECOND FORM's CARD OF 'lumlaw.KeepSays'. -/
def keepSaysUptoCard : Claim7 := { stood := { row := keepSaysUptoRow, standIns := [], harness := (true, "84a6aba3561c5e14daca56844eaab35ac9025fec0e0700eb7e576f68a3e55fcb"), looks := false }, kinds := [], alts := [], laidByText := true, laidKinds := [.data], laidTests := true, laidLooks := .later }
def KeepSaysUptoCardSaid : Prop := Claim7.holds Tryd.pinned (.plain (OpenSpec.upto keepSaysSpec)) keepSaysUptoCard

/-- THE SECOND FORM's CARD OF 'lumkeep.KeepAgain'. -/
def keepAgainUptoCard : Claim7 := { stood := { row := keepAgainUptoRow, standIns := [], harness := (true, "84a6aba3561c5e14daca56844eaab35ac9025fec0e0700eb7e576f68a3e55fcb"), looks := false }, kinds := [], alts := [], laidByText := true, laidKinds := [.data], laidTests := true, laidLooks := .later }
def KeepAgainUptoCardSaid : Prop := Claim7.holds Tryd.pinned (.plain (OpenSpec.upto keepAgainSpec)) keepAgainUptoCard

/-- THE SECOND FORM's CARD OF 'lumkeep.KeepMore'. -/
def keepMoreUptoCard : Claim7 := { stood := { row := keepMoreUptoRow, standIns := [], harness := (true, "84a6aba3561c5e14daca56844eaab35ac9025fec0e0700eb7e576f68a3e55fcb"), looks := false }, kinds := [], alts := [], laidByText := true, laidKinds := [.data], laidTests := true, laidLooks := .later }
def KeepMoreUptoCardSaid : Prop := Claim7.holds Tryd.pinned (.plain (OpenSpec.upto keepMoreSpec)) keepMoreUptoCard

/-- THE SECOND FORM's CARD OF 'lumkeep.KeepFew'. -/
def keepFewUptoCard : Claim7 := { stood := { row := keepFewUptoRow, standIns := [], harness := (true, "84a6aba3561c5e14daca56844eaab35ac9025fec0e0700eb7e576f68a3e55fcb"), looks := false }, kinds := [], alts := [], laidByText := true, laidKinds := [.data], laidTests := true, laidLooks := .later }
def KeepFewUptoCardSaid : Prop := Claim7.holds Tryd.pinned (.plain (OpenSpec.upto keepFewSpec)) keepFewUptoCard

/-- THE SECOND FORM's CARD OF 'lumkeep.KeepYears'. -/
def keepYearsUptoCard : Claim7 := { stood := { row := keepYearsUptoRow, standIns := [], harness := (true, "84a6aba3561c5e14daca56844eaab35ac9025fec0e0700eb7e576f68a3e55fcb"), looks := false }, kinds := [], alts := [], laidByText := true, laidKinds := [.data], laidTests := true, laidLooks := .later }
def KeepYearsUptoCardSaid : Prop := Claim7.holds Tryd.pinned (.plain (OpenSpec.upto keepYearsSpec)) keepYearsUptoCard
end Rows
end Go.Proofs.YtemcakegbeaeaaaDoor
