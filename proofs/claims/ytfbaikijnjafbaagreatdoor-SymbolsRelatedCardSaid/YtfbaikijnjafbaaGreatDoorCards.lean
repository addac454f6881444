/-
  DERIVED. GIVEN WITH THE SEED: THE CARDS: each row of YtfbaikijnjafbaaGreatDoorRows.lean that lists a variable, with what it lists TIED to the program's text (the seventh form; the later family's looks); each row that meets fmt, with fmt's text TOLD by the authors' own Lean function (tested against real Go, not proved from fmt's source: count such statements apart). THE CARD IS WHAT COUNTS. Prove the row's statement (the work); the ties are given (YtfbaikijnjafbaaGreatDoorTie.lean); close each card by the builder's one call (the guide's Derived/Test/ToyasCard.lean, 'card_holds'). Laid BY PROGRAM, IN A SANDBOX (cutbox-door.mjs). By AI agents, Wed Nov 11 2026. No macro, syntax, notation, axiom, sorry.
-/
import Derived.Test.YtfbaikijnjafbaaGreatDoorRows
import GoSem.ClaimSeven
namespace Go.Proofs.YtfbaikijnjafbaaGreatDoor
namespace Rows

/-- THE TIED CARD OF 'newellaw06.SymbolsChecks'. -/
def symbolsChecksCard : Claim7 := { stood := { row := symbolsChecksRow, standIns := [], harness := (true, "feb90e7a58c12a183d22802b37923d63f0d83a37747d7e2ee80e4c762d405b28"), looks := false }, kinds := [], alts := [], laidByText := true, laidKinds := [.data], laidTests := true, laidLooks := .later }
def SymbolsChecksCardSaid : Prop := Claim7.holds Tryz.pinned (.plain (OpenSpec.ofChange symbolsChecksSpec)) symbolsChecksCard

/-- THE TIED CARD OF 'newellaw06.SymbolsDeclares'. -/
def symbolsDeclaresCard : Claim7 := { stood := { row := symbolsDeclaresRow, standIns := [], harness := (true, "feb90e7a58c12a183d22802b37923d63f0d83a37747d7e2ee80e4c762d405b28"), looks := false }, kinds := [], alts := [], laidByText := true, laidKinds := [.data], laidTests := true, laidLooks := .later }
def SymbolsDeclaresCardSaid : Prop := Claim7.holds Tryz.pinned (.plain (OpenSpec.ofChange symbolsDeclaresSpec)) symbolsDeclaresCard

/-- THE TIED CARD OF 'newellaw06.SymbolsRelated'. -/
def symbolsRelatedCard : Claim7 := { stood := { row := symbolsRelatedRow, standIns := [], harness := (true, "feb90e7a58c12a183d22802b37923d63f0d83a37747d7e2ee80e4c762d405b28"), looks := false }, kinds := [], alts := [], laidByText := true, laidKinds := [.data], laidTests := true, laidLooks := .later }
def SymbolsRelatedCardSaid : Prop := Claim7.holds Tryz.pinned (.plain (OpenSpec.ofChange symbolsRelatedSpec)) symbolsRelatedCard

/-- THE TIED CARD OF 'newellaw06.SymbolsTexts'. -/
def symbolsTextsCard : Claim7 := { stood := { row := symbolsTextsRow, standIns := [], harness := (true, "feb90e7a58c12a183d22802b37923d63f0d83a37747d7e2ee80e4c762d405b28"), looks := false }, kinds := [], alts := [], laidByText := true, laidKinds := [.data, .data, .data, .data], laidTests := true, laidLooks := .later }
def SymbolsTextsCardSaid : Prop := Claim7.holds Tryz.pinned (.plain (OpenSpec.ofChange symbolsTextsSpec)) symbolsTextsCard

/-- THE SECOND FORM's CARD OF 'newellaw06.SymbolsChecks'. -/
def symbolsChecksUptoCard : Claim7 := { stood := { row := symbolsChecksUptoRow, standIns := [], harness := (true, "feb90e7a58c12a183d22802b37923d63f0d83a37747d7e2ee80e4c762d405b28"), looks := false }, kinds := [], alts := [], laidByText := true, laidKinds := [.data], laidTests := true, laidLooks := .later }
def SymbolsChecksUptoCardSaid : Prop := Claim7.holds Tryz.pinned (.plain (OpenSpec.upto symbolsChecksSpec)) symbolsChecksUptoCard

/-- THE SECOND FORM's CARD OF 'newellaw06.SymbolsDeclares'. -/
def symbolsDeclaresUptoCard : Claim7 := { stood := { row := symbolsDeclaresUptoRow, standIns := [], harness := (true, "feb90e7a58c12a183d22802b37923d63f0d83a37747d7e2ee80e4c762d405b28"), looks := false }, kinds := [], alts := [], laidByText := true, laidKinds := [.data], laidTests := true, laidLooks := .later }
def SymbolsDeclaresUptoCardSaid : Prop := Claim7.holds Tryz.pinned (.plain (OpenSpec.upto symbolsDeclaresSpec)) symbolsDeclaresUptoCard

/-- THE SECOND FORM's CARD OF 'newellaw06.SymbolsRelated'. -/
def symbolsRelatedUptoCard : Claim7 := { stood := { row := symbolsRelatedUptoRow, standIns := [], harness := (true, "feb90e7a58c12a183d22802b37923d63f0d83a37747d7e2ee80e4c762d405b28"), looks := false }, kinds := [], alts := [], laidByText := true, laidKinds := [.data], laidTests := true, laidLooks := .later }
def SymbolsRelatedUptoCardSaid : Prop := Claim7.holds Tryz.pinned (.plain (OpenSpec.upto symbolsRelatedSpec)) symbolsRelatedUptoCard

/-- THE SECOND FORM's CARD OF 'newellaw06.SymbolsTexts'. -/
def symbolsTextsUptoCard : Claim7 := { stood := { row := symbolsTextsUptoRow, standIns := [], harness := (true, "feb90e7a58c12a183d22802b37923d63f0d83a37747d7e2ee80e4c762d405b28"), looks := false }, kinds := [], alts := [], laidByText := true, laidKinds := [.data, .data, .data, .data], laidTests := true, laidLooks := .later }
def SymbolsTextsUptoCardSaid : Prop := Claim7.holds Tryz.pinned (.plain (OpenSpec.upto symbolsTextsSpec)) symbolsTextsUptoCard
end Rows
end Go.Proofs.YtfbaikijnjafbaaGreatDoor
