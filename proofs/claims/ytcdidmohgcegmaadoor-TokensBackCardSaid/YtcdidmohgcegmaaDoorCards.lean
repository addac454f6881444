/-
  DERIVED. GIVEN WITH THE SEED: THE CARDS: each row of YtcdidmohgcegmaaDoorRows.lean that lists a variable, with what it lists TIED to the program's text (the seventh form; the later family's looks); each row that meets fmt, with fmt's text TOLD by the authors' own Lean function (tested against real Go, not proved from fmt's source: count such statements apart). THE CARD IS WHAT COUNTS. Prove the row's statement (the work); the ties are given (YtcdidmohgcegmaaDoorTie.lean); close each card by the builder's one call (the guide's Derived/Test/ToyasCard.lean, 'card_holds'). Laid BY PROGRAM, IN A SANDBOX (cutbox-door.mjs). By AI agents, Wed Nov 11 2026. No macro, syntax, notation, axiom, sorry.
-/
import Derived.Test.YtcdidmohgcegmaaDoorRows
import GoSem.ClaimSeven
namespace Go.Proofs.YtcdidmohgcegmaaDoor
namespace Rows

/-- THE TIED CARD OF 'newellaw01.TokensNames'. -/
def tokensNamesCard : Claim7 := { stood := { row := tokensNamesRow, standIns := [], harness := (true, "eddd812c18315cad198baa486ae15d236d1fb2cd13399c269b57c3d67620003a"), looks := true }, kinds := [], alts := [], laidByText := true, laidKinds := [.data, .data, .data], laidTests := true, laidLooks := .later }
def TokensNamesCardSaid : Prop := Claim7.holds Tryd.pinned (.plain (OpenSpec.ofChange tokensNamesSpec)) tokensNamesCard

/-- THE TIED CARD OF 'newellaw01.TokensBack'. -/
def tokensBackCard : Claim7 := { stood := { row := tokensBackRow, standIns := [], harness := (true, "eddd812c18315cad198baa486ae15d236d1fb2cd13399c269b57c3d67620003a"), looks := true }, kinds := [], alts := [], laidByText := true, laidKinds := [.data, .data], laidTests := true, laidLooks := .later }
def TokensBackCardSaid : Prop := Claim7.holds Tryd.pinned (.plain (OpenSpec.ofChange tokensBackSpec)) tokensBackCard

/-- THE TIED CARD OF 'newellaw01.TokensMatch'. -/
def tokensMatchCard : Claim7 := { stood := { row := tokensMatchRow, standIns := [], harness := (true, "eddd812c18315cad198baa486ae15d236d1fb2cd13399c269b57c3d67620003a"), looks := true }, kinds := [], alts := [], laidByText := true, laidKinds := [.data, .data], laidTests := true, laidLooks := .later }
def TokensMatchCardSaid : Prop := Claim7.holds Tryd.pinned (.plain (OpenSpec.ofChange tokensMatchSpec)) tokensMatchCard

/-- THE TIED CARD OF 'newellaw01.TokensSpaces'. -/
def tokensSpacesCard : Claim7 := { stood := { row := tokensSpacesRow, standIns := [], harness := (true, "eddd812c18315cad198baa486ae15d236d1fb2cd13399c269b57c3d67620003a"), looks := true }, kinds := [], alts := [], laidByText := true, laidKinds := [.data, .data], laidTests := true, laidLooks := .later }
def TokensSpacesCardSaid : Prop := Claim7.holds Tryd.pinned (.plain (OpenSpec.ofChange tokensSpacesSpec)) tokensSpacesCard

/-- THE SECOND FORM's CARD OF 'newellaw01.TokensNames'. -/
def tokensNamesUptoCard : Claim7 := { stood := { row := tokensNamesUptoRow, standIns := [], harness := (true, "eddd812c18315cad198baa486ae15d236d1fb2cd13399c269b57c3d67620003a"), looks := true }, kinds := [], alts := [], laidByText := true, laidKinds := [.data, .data, .data], laidTests := true, laidLooks := .later }
def TokensNamesUptoCardSaid : Prop := Claim7.holds Tryd.pinned (.plain (OpenSpec.upto tokensNamesSpec)) tokensNamesUptoCard

/-- THE SECOND FORM's CARD OF 'newellaw01.TokensBack'. -/
def tokensBackUptoCard : Claim7 := { stood := { row := tokensBackUptoRow, standIns := [], harness := (true, "eddd812c18315cad198baa486ae15d236d1fb2cd13399c269b57c3d67620003a"), looks := true }, kinds := [], alts := [], laidByText := true, laidKinds := [.data, .data], laidTests := true, laidLooks := .later }
def TokensBackUptoCardSaid : Prop := Claim7.holds Tryd.pinned (.plain (OpenSpec.upto tokensBackSpec)) tokensBackUptoCard

/-- THE SECOND FORM's CARD OF 'newellaw01.TokensMatch'. -/
def tokensMatchUptoCard : Claim7 := { stood := { row := tokensMatchUptoRow, standIns := [], harness := (true, "eddd812c18315cad198baa486ae15d236d1fb2cd13399c269b57c3d67620003a"), looks := true }, kinds := [], alts := [], laidByText := true, laidKinds := [.data, .data], laidTests := true, laidLooks := .later }
def TokensMatchUptoCardSaid : Prop := Claim7.holds Tryd.pinned (.plain (OpenSpec.upto tokensMatchSpec)) tokensMatchUptoCard

/-- THE SECOND FORM's CARD OF 'newellaw01.TokensSpaces'. -/
def tokensSpacesUptoCard : Claim7 := { stood := { row := tokensSpacesUptoRow, standIns := [], harness := (true, "eddd812c18315cad198baa486ae15d236d1fb2cd13399c269b57c3d67620003a"), looks := true }, kinds := [], alts := [], laidByText := true, laidKinds := [.data, .data], laidTests := true, laidLooks := .later }
def TokensSpacesUptoCardSaid : Prop := Claim7.holds Tryd.pinned (.plain (OpenSpec.upto tokensSpacesSpec)) tokensSpacesUptoCard
end Rows
end Go.Proofs.YtcdidmohgcegmaaDoor
