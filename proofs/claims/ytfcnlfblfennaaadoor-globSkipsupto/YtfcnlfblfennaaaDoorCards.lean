/-
  DERIVED. GIVEN WITH THE SEED: THE CARDS: each row of YtfcnlfblfennaaaDoorRows.lean that lists a variable, with what it lists TIED to the program's text (the seventh form; the later family's looks); each row that meets fmt, with fmt's text TOLD by the authors' own Lean function (tested against real Go, not proved from fmt's source: count such statements apart). THE CARD IS WHAT COUNTS. Prove the row's statement (the work); the ties are given (YtfcnlfblfennaaaDoorTie.lean); close each card by the builder's one call (the guide's Derived/Test/ToyasCard.lean, 'card_holds'). Laid BY PROGRAM, IN A SANDBOX (cutbox-door.mjs). By AI agents, Wed Nov 11 2026. No macro, syntax, notation, axiom, sorry.
-/
import Derived.Test.YtfcnlfblfennaaaDoorRows
import GoSem.ClaimSeven
namespace Go.Proofs.YtfcnlfblfennaaaDoor
namespace Rows

/-- THE TIED CARD OF 'lumlaw.GlobMatches'. -/
def globMatchesCard : Claim7 := { stood := { row := globMatchesRow, standIns := [], harness := (true, "41e71aba523a0025da355cfa60c4779ea82a2cac086b7f64f7e14acd3d7d17de"), looks := false }, kinds := [], alts := [], laidByText := true, laidKinds := [.data, .pinned], laidTests := true, laidLooks := .later }
def GlobMatchesCardSaid : Prop := Claim7.holds Tryd.pinned (.plain (OpenSpec.ofChange globMatchesSpec)) globMatchesCard

/-- THE TIED CARD OF 'lumlaw.GlobSkips'. -/
def globSkipsCard : Claim7 := { stood := { row := globSkipsRow, standIns := [], harness := (true, "41e71aba523a0025da355cfa60c4779ea82a2cac086b7f64f7e14acd3d7d17de"), looks := false }, kinds := [], alts := [], laidByText := true, laidKinds := [.data, .pinned], laidTests := true, laidLooks := .later }
def GlobSkipsCardSaid : Prop := Claim7.holds Tryd.pinned (.plain (OpenSpec.ofChange globSkipsSpec)) globSkipsCard

/-- THE TIED CARD OF 'lumkeep.GlobPlain'. -/
def globPlainCard : Claim7 := { stood := { row := globPlainRow, standIns := [], harness := (true, "41e71aba523a0025da355cfa60c4779ea82a2cac086b7f64f7e14acd3d7d17de"), looks := false }, kinds := [], alts := [], laidByText := true, laidKinds := [.data, .pinned], laidTests := true, laidLooks := .later }
def GlobPlainCardSaid : Prop := Claim7.holds Tryd.pinned (.plain (OpenSpec.ofChange globPlainSpec)) globPlainCard

/-- THE TIED CARD OF 'lumkeep.GlobSplits'. -/
def globSplitsCard : Claim7 := { stood := { row := globSplitsRow, standIns := [], harness := (true, "41e71aba523a0025da355cfa60c4779ea82a2cac086b7f64f7e14acd3d7d17de"), looks := false }, kinds := [], alts := [], laidByText := true, laidKinds := [.data, .pinned], laidTests := true, laidLooks := .later }
def GlobSplitsCardSaid : Prop := Claim7.holds Tryd.pinned (.plain (OpenSpec.ofChange globSplitsSpec)) globSplitsCard

/-- THE TIED CARD OF 'lumkeep.GlobBeneath'. -/
def globBeneathCard : Claim7 := { stood := { row := globBeneathRow, standIns := [], harness := (true, "41e71aba523a0025da355cfa60c4779ea82a2cac086b7f64f7e14acd3d7d17de"), looks := false }, kinds := [], alts := [], laidByText := true, laidKinds := [.data, .pinned], laidTests := true, laidLooks := .later }
def GlobBeneathCardSaid : Prop := Claim7.holds Tryd.pinned (.plain (OpenSpec.ofChange globBeneathSpec)) globBeneathCard

/-- THE TIED CARD OF 'lumkeep.GlobLast'. -/
def globLastCard : Claim7 := { stood := { row := globLastRow, standIns := [], harness := (true, "41e71aba523a0025da355cfa60c4779ea82a2cac086b7f64f7e14acd3d7d17de"), looks := false }, kinds := [], alts := [], laidByText := true, laidKinds := [.data, .pinned], laidTests := true, laidLooks := .later }
def GlobLastCardSaid : Prop := Claim7.holds Tryd.pinned (.plain (OpenSpec.ofChange globLastSpec)) globLastCard

/-- THE SECOND FORM's CARD OF 'lumlaw.GlobMatches'. -/
def globMatchesUptoCard : Claim7 := { stood := { row := globMatchesUptoRow, standIns := [], harness := (true, "41e71aba523a0025da355cfa60c4779ea82a2cac086b7f64f7e14acd3d7d17de"), looks := false }, kinds := [], alts := [], laidByText := true, laidKinds := [.data, .pinned], laidTests := true, laidLooks := .later }
def GlobMatchesUptoCardSaid : Prop := Claim7.holds Tryd.pinned (.plain (OpenSpec.upto globMatchesSpec)) globMatchesUptoCard

/-- THE SECOND FORM's CARD OF 'lumlaw.GlobSkips'. -/
def globSkipsUptoCard : Claim7 := { stood := { row := globSkipsUptoRow, standIns := [], harness := (true, "41e71aba523a0025da355cfa60c4779ea82a2cac086b7f64f7e14acd3d7d17de"), looks := false }, kinds := [], alts := [], laidByText := true, laidKinds := [.data, .pinned], laidTests := true, laidLooks := .later }
def GlobSkipsUptoCardSaid : Prop := Claim7.holds Tryd.pinned (.plain (OpenSpec.upto globSkipsSpec)) globSkipsUptoCard

/-- THE SECOND FORM's CARD OF 'lumkeep.GlobPlain'. -/
def globPlainUptoCard : Claim7 := { stood := { row := globPlainUptoRow, standIns := [], harness := (true, "41e71aba523a0025da355cfa60c4779ea82a2cac086b7f64f7e14acd3d7d17de"), looks := false }, kinds := [], alts := [], laidByText := true, laidKinds := [.data, .pinned], laidTests := true, laidLooks := .later }
def GlobPlainUptoCardSaid : Prop := Claim7.holds Tryd.pinned (.plain (OpenSpec.upto globPlainSpec)) globPlainUptoCard

/-- THE SECOND FORM's CARD OF 'lumkeep.GlobSplits'. -/
def globSplitsUptoCard : Claim7 := { stood := { row := globSplitsUptoRow, standIns := [], harness := (true, "41e71aba523a0025da355cfa60c4779ea82a2cac086b7f64f7e14acd3d7d17de"), looks := false }, kinds := [], alts := [], laidByText := true, laidKinds := [.data, .pinned], laidTests := true, laidLooks := .later }
def GlobSplitsUptoCardSaid : Prop := Claim7.holds Tryd.pinned (.plain (OpenSpec.upto globSplitsSpec)) globSplitsUptoCard

/-- THE SECOND FORM's CARD OF 'lumkeep.GlobBeneath'. -/
def globBeneathUptoCard : Claim7 := { stood := { row := globBeneathUptoRow, standIns := [], harness := (true, "41e71aba523a0025da355cfa60c4779ea82a2cac086b7f64f7e14acd3d7d17de"), looks := false }, kinds := [], alts := [], laidByText := true, laidKinds := [.data, .pinned], laidTests := true, laidLooks := .later }
def GlobBeneathUptoCardSaid : Prop := Claim7.holds Tryd.pinned (.plain (OpenSpec.upto globBeneathSpec)) globBeneathUptoCard

/-- THE SECOND FORM's CARD OF 'lumkeep.GlobLast'. -/
def globLastUptoCard : Claim7 := { stood := { row := globLastUptoRow, standIns := [], harness := (true, "41e71aba523a0025da355cfa60c4779ea82a2cac086b7f64f7e14acd3d7d17de"), looks := false }, kinds := [], alts := [], laidByText := true, laidKinds := [.data, .pinned], laidTests := true, laidLooks := .later }
def GlobLastUptoCardSaid : Prop := Claim7.holds Tryd.pinned (.plain (OpenSpec.upto globLastSpec)) globLastUptoCard
end Rows
end Go.Proofs.YtfcnlfblfennaaaDoor
