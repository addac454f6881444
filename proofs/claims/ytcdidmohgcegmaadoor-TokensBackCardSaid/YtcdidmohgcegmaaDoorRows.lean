/-
  NARROWER THAN 'FOR EVERY INPUT', by the rows' own cells (each row's printed sentence says how): TokensNames: laid · TokensBack: laid · TokensMatch: laid · TokensSpaces: laid.
  DERIVED. THE GIVEN ROWS OF THIS SEAT. 4 by the template 'for every input the law returns true; each argument reads behind the call as it read before'; 0 by the template 'total and deterministic' (their statements: YtcdidmohgcegmaaDoorTotals.lean).
  GIVEN WITH THE SEED: the statements are not yours to turn. If you find one false, say at which input.
  Laid BY PROGRAM, IN A SANDBOX (cutbox-rows.mjs): the forced cells as the released guide's own fill.sh prints them over the translation 95f0839acb930db8… (all of the seat's roots in one cut). By AI agents, Wed Nov 11 2026. No macro, syntax, notation, axiom, sorry.
-/
import Derived.Test.YtcdidmohgcegmaaDoorChecked
import GoSem.Claim
import GoSem.ClaimJoined
import GoSem.ClaimMapViews
import Derived.JoinedTies
import Derived.KernelRfl
namespace Go.Proofs.YtcdidmohgcegmaaDoor
/- THE CELL 'sum', in the pinned program and in every row, IS THE sha256 OF THE DUMP (.gsa) THAT YtcdidmohgcegmaaDoorProg.lean LOADS. Nothing in Lean hashes anything: it is a label: what it is worth is what the hold of that sum in a sandbox is worth. -/
noncomputable def Tryd.pinned : Pinned := { name := "ytcdidmohgcegmaadoor", sum := "95f0839acb930db89cc3f0f02542eb56412c6ac6b05e9ee2dcdd5fe1128646b8", checked := Tryd.checked }
namespace Rows
def none {H : Type} : Left H := { results := [], args := [] }

/- WHAT THE LISTED PACKAGE-LEVEL VARIABLES READ AS WHEN THE CALL BEGINS. Each datum BY PROGRAM (the guide's laid-datum.mjs) off the statement by which the dump's own 'gosem.cut.vars' lays the variable. In a bare row this is a premise. The card (YtcdidmohgcegmaaDoorCards.lean) ties it to the program's text. -/
def laid_newel_tokens_classes {H : Type} : DataW H := .agg [.lit (.int .u8 0), .lit (.int .u8 0), .lit (.int .u8 0), .lit (.int .u8 0), .lit (.int .u8 0), .lit (.int .u8 0), .lit (.int .u8 0), .lit (.int .u8 0), .lit (.int .u8 0), .lit (.int .u8 1), .lit (.int .u8 1), .lit (.int .u8 0), .lit (.int .u8 0), .lit (.int .u8 0), .lit (.int .u8 0), .lit (.int .u8 0), .lit (.int .u8 0), .lit (.int .u8 0), .lit (.int .u8 0), .lit (.int .u8 0), .lit (.int .u8 0), .lit (.int .u8 0), .lit (.int .u8 0), .lit (.int .u8 0), .lit (.int .u8 0), .lit (.int .u8 0), .lit (.int .u8 0), .lit (.int .u8 0), .lit (.int .u8 0), .lit (.int .u8 0), .lit (.int .u8 0), .lit (.int .u8 0), .lit (.int .u8 1), .lit (.int .u8 4), .lit (.int .u8 7), .lit (.int .u8 0), .lit (.int .u8 8), .lit (.int .u8 4), .lit (.int .u8 4), .lit (.int .u8 6), .lit (.int .u8 5), .lit (.int .u8 5), .lit (.int .u8 4), .lit (.int .u8 4), .lit (.int .u8 5), .lit (.int .u8 4), .lit (.int .u8 5), .lit (.int .u8 4), .lit (.int .u8 3), .lit (.int .u8 3), .lit (.int .u8 3), .lit (.int .u8 3), .lit (.int .u8 3), .lit (.int .u8 3), .lit (.int .u8 3), .lit (.int .u8 3), .lit (.int .u8 3), .lit (.int .u8 3), .lit (.int .u8 4), .lit (.int .u8 5), .lit (.int .u8 4), .lit (.int .u8 4), .lit (.int .u8 4), .lit (.int .u8 4), .lit (.int .u8 5), .lit (.int .u8 2), .lit (.int .u8 2), .lit (.int .u8 2), .lit (.int .u8 2), .lit (.int .u8 2), .lit (.int .u8 2), .lit (.int .u8 2), .lit (.int .u8 2), .lit (.int .u8 2), .lit (.int .u8 2), .lit (.int .u8 2), .lit (.int .u8 2), .lit (.int .u8 2), .lit (.int .u8 2), .lit (.int .u8 2), .lit (.int .u8 2), .lit (.int .u8 2), .lit (.int .u8 2), .lit (.int .u8 2), .lit (.int .u8 2), .lit (.int .u8 2), .lit (.int .u8 2), .lit (.int .u8 2), .lit (.int .u8 2), .lit (.int .u8 2), .lit (.int .u8 2), .lit (.int .u8 5), .lit (.int .u8 0), .lit (.int .u8 5), .lit (.int .u8 4), .lit (.int .u8 2), .lit (.int .u8 0), .lit (.int .u8 2), .lit (.int .u8 2), .lit (.int .u8 2), .lit (.int .u8 2), .lit (.int .u8 2), .lit (.int .u8 2), .lit (.int .u8 2), .lit (.int .u8 2), .lit (.int .u8 2), .lit (.int .u8 2), .lit (.int .u8 2), .lit (.int .u8 2), .lit (.int .u8 2), .lit (.int .u8 2), .lit (.int .u8 2), .lit (.int .u8 2), .lit (.int .u8 2), .lit (.int .u8 2), .lit (.int .u8 2), .lit (.int .u8 2), .lit (.int .u8 2), .lit (.int .u8 2), .lit (.int .u8 2), .lit (.int .u8 2), .lit (.int .u8 2), .lit (.int .u8 2), .lit (.int .u8 5), .lit (.int .u8 4), .lit (.int .u8 5), .lit (.int .u8 4), .lit (.int .u8 0)]
def laid_newel_tokens_keywords {H : Type} : DataW H := .agg [.lit (.string [97, 98, 115, 116, 114, 97, 99, 116]), .lit (.string [99, 97, 115, 101]), .lit (.string [99, 97, 116, 99, 104]), .lit (.string [99, 108, 97, 115, 115]), .lit (.string [100, 101, 102]), .lit (.string [100, 111]), .lit (.string [101, 108, 115, 101]), .lit (.string [101, 110, 117, 109]), .lit (.string [101, 120, 116, 101, 110, 100, 115]), .lit (.string [101, 120, 116, 101, 110, 115, 105, 111, 110]), .lit (.string [102, 97, 108, 115, 101]), .lit (.string [102, 105, 110, 97, 108]), .lit (.string [102, 105, 110, 97, 108, 108, 121]), .lit (.string [102, 111, 114]), .lit (.string [103, 105, 118, 101, 110]), .lit (.string [105, 102]), .lit (.string [105, 109, 112, 111, 114, 116]), .lit (.string [105, 110, 108, 105, 110, 101]), .lit (.string [108, 97, 122, 121]), .lit (.string [109, 97, 116, 99, 104]), .lit (.string [110, 101, 119]), .lit (.string [110, 117, 108, 108]), .lit (.string [111, 98, 106, 101, 99, 116]), .lit (.string [111, 118, 101, 114, 114, 105, 100, 101]), .lit (.string [112, 114, 105, 118, 97, 116, 101]), .lit (.string [114, 101, 116, 117, 114, 110]), .lit (.string [115, 101, 97, 108, 101, 100]), .lit (.string [115, 117, 112, 101, 114]), .lit (.string [116, 104, 101, 110]), .lit (.string [116, 104, 105, 115]), .lit (.string [116, 104, 114, 111, 119]), .lit (.string [116, 114, 97, 105, 116]), .lit (.string [116, 114, 117, 101]), .lit (.string [116, 114, 121]), .lit (.string [116, 121, 112, 101]), .lit (.string [117, 115, 105, 110, 103]), .lit (.string [118, 97, 108]), .lit (.string [118, 97, 114]), .lit (.string [118, 111, 108, 97, 116, 105, 108, 101]), .lit (.string [119, 104, 105, 108, 101]), .lit (.string [119, 105, 116, 104]), .lit (.string [121, 105, 101, 108, 100])]
def laid_newel_tokens_firsts {H : Type} : DataW H := .agg [.lit (.string [124]), .lit (.string [94]), .lit (.string [38]), .lit (.string [61, 33]), .lit (.string [60, 62]), .lit (.string [58]), .lit (.string [43, 45]), .lit (.string [42, 47, 37]), .lit (.string [126, 63])]

/-- 'newellaw01.TokensNames': WHATEVER THE INPUT: true; the input reads as it did. -/
def tokensNamesSpec : ChangeSpec := { name := "tokensNames", fn := fun _ => fun
  | [d] => { results := [.lit (.bool true)], args := [d] }
  | _ => none }
def tokensNamesRow : OpenClaim := { program := "ytcdidmohgcegmaadoor", sum := "95f0839acb930db89cc3f0f02542eb56412c6ac6b05e9ee2dcdd5fe1128646b8", func := "newel/newellaw01.TokensNames", spec := "tokensNames", inPlace := ["internal/bytealg.IndexByteString"], unfollowed := true, recurses := true, named := ["newel/tokens.classes", "newel/tokens.keywords", "newel/tokens.firsts"], apart := false, laid := [("newel/tokens.classes", laid_newel_tokens_classes), ("newel/tokens.keywords", laid_newel_tokens_keywords), ("newel/tokens.firsts", laid_newel_tokens_firsts)] }
def TokensNamesSaid : Prop := tokensNamesRow.holds Tryd.pinned (OpenSpec.ofChange tokensNamesSpec)

/-- ITS FALSE NEIGHBOUR: 'it returns false'. Refute it at one input. -/
def tokensNamesWrong : ChangeSpec := { name := "tokensNames", fn := fun _ => fun
  | [d] => { results := [.lit (.bool false)], args := [d] }
  | _ => none }
def TokensNamesWrongFalsely : Prop := tokensNamesRow.holds Tryd.pinned (OpenSpec.ofChange tokensNamesWrong)

/-- 'newellaw01.TokensBack': WHATEVER THE INPUT: true; the input reads as it did. -/
def tokensBackSpec : ChangeSpec := { name := "tokensBack", fn := fun _ => fun
  | [d] => { results := [.lit (.bool true)], args := [d] }
  | _ => none }
def tokensBackRow : OpenClaim := { program := "ytcdidmohgcegmaadoor", sum := "95f0839acb930db89cc3f0f02542eb56412c6ac6b05e9ee2dcdd5fe1128646b8", func := "newel/newellaw01.TokensBack", spec := "tokensBack", inPlace := ["internal/abi.NoEscape", "internal/bytealg.IndexByteString"], unfollowed := true, recurses := true, named := ["newel/tokens.classes", "newel/tokens.keywords"], apart := false, laid := [("newel/tokens.classes", laid_newel_tokens_classes), ("newel/tokens.keywords", laid_newel_tokens_keywords)] }
def TokensBackSaid : Prop := tokensBackRow.holds Tryd.pinned (OpenSpec.ofChange tokensBackSpec)

/-- ITS FALSE NEIGHBOUR: 'it returns false'. Refute it at one input. -/
def tokensBackWrong : ChangeSpec := { name := "tokensBack", fn := fun _ => fun
  | [d] => { results := [.lit (.bool false)], args := [d] }
  | _ => none }
def TokensBackWrongFalsely : Prop := tokensBackRow.holds Tryd.pinned (OpenSpec.ofChange tokensBackWrong)

/-- 'newellaw01.TokensMatch': WHATEVER THE INPUT: true; the input reads as it did. -/
def tokensMatchSpec : ChangeSpec := { name := "tokensMatch", fn := fun _ => fun
  | [d] => { results := [.lit (.bool true)], args := [d] }
  | _ => none }
def tokensMatchRow : OpenClaim := { program := "ytcdidmohgcegmaadoor", sum := "95f0839acb930db89cc3f0f02542eb56412c6ac6b05e9ee2dcdd5fe1128646b8", func := "newel/newellaw01.TokensMatch", spec := "tokensMatch", unfollowed := true, recurses := true, named := ["newel/tokens.classes", "newel/tokens.keywords"], apart := false, laid := [("newel/tokens.classes", laid_newel_tokens_classes), ("newel/tokens.keywords", laid_newel_tokens_keywords)] }
def TokensMatchSaid : Prop := tokensMatchRow.holds Tryd.pinned (OpenSpec.ofChange tokensMatchSpec)

/-- ITS FALSE NEIGHBOUR: 'it returns false'. Refute it at one input. -/
def tokensMatchWrong : ChangeSpec := { name := "tokensMatch", fn := fun _ => fun
  | [d] => { results := [.lit (.bool false)], args := [d] }
  | _ => none }
def TokensMatchWrongFalsely : Prop := tokensMatchRow.holds Tryd.pinned (OpenSpec.ofChange tokensMatchWrong)

/-- 'newellaw01.TokensSpaces': WHATEVER THE INPUT: true; the input reads as it did. -/
def tokensSpacesSpec : ChangeSpec := { name := "tokensSpaces", fn := fun _ => fun
  | [d1, d2] => { results := [.lit (.bool true)], args := [d1, d2] }
  | _ => none }
def tokensSpacesRow : OpenClaim := { program := "ytcdidmohgcegmaadoor", sum := "95f0839acb930db89cc3f0f02542eb56412c6ac6b05e9ee2dcdd5fe1128646b8", func := "newel/newellaw01.TokensSpaces", spec := "tokensSpaces", unfollowed := true, recurses := true, named := ["newel/tokens.classes", "newel/tokens.keywords"], apart := false, laid := [("newel/tokens.classes", laid_newel_tokens_classes), ("newel/tokens.keywords", laid_newel_tokens_keywords)] }
def TokensSpacesSaid : Prop := tokensSpacesRow.holds Tryd.pinned (OpenSpec.ofChange tokensSpacesSpec)

/-- ITS FALSE NEIGHBOUR: 'it returns false'. Refute it at one input. -/
def tokensSpacesWrong : ChangeSpec := { name := "tokensSpaces", fn := fun _ => fun
  | [d1, d2] => { results := [.lit (.bool false)], args := [d1, d2] }
  | _ => none }
def TokensSpacesWrongFalsely : Prop := tokensSpacesRow.holds Tryd.pinned (OpenSpec.ofChange tokensSpacesWrong)

/- THE SECOND FORM. 'bulk': how many values and letters a reading holds, each counted each time it is reached (what is shared counts as often as it is met; a slice's spare places count too). A statement '..UptoSaid' is the law's where the arguments, and the package variables that the reading takes, are together of bulk at most 1048576: NARROWER than '..Said'. Prove '..Said' where nothing that the law and all that it calls make is longer than what came in: it says more and counts as full. Else prove '..UptoSaid'. A law counts once. -/
mutual
def uptoBulk {H : Type} : DataW H → Nat
  | .lit (.string bytes) => bytes.length + 1
  | .lit _ => 1
  | .nil => 1
  | .ptr d => uptoBulk d + 1
  | .slice elems spare => uptoBulkAll elems + uptoBulkAll spare + 1
  | .agg parts => uptoBulkAll parts + 1
  | .iface _ d => uptoBulk d + 1
  | .map entries => uptoBulkEntries entries + 1
  | .held _ => 1
def uptoBulkAll {H : Type} : List (DataW H) → Nat
  | [] => 0
  | d :: r => uptoBulk d + uptoBulkAll r
def uptoBulkEntries {H : Type} : List (Lit × DataW H) → Nat
  | [] => 0
  | x :: r => uptoBulkEntry x + uptoBulkEntries r
def uptoBulkEntry {H : Type} : Lit × DataW H → Nat
  | (.string bytes, d) => bytes.length + uptoBulk d + 1
  | (_, d) => uptoBulk d + 1
 end
def uptoSmall : (H : Type) → List (DataW H) → Bool := fun _ ds => decide (uptoBulkAll ds ≤ 1048576)
def OpenSpec.upto (s : _root_.Go.ChangeSpec) : _root_.Go.OpenSpec := { _root_.Go.OpenSpec.ofChange s with cond := some uptoSmall }

/-- 'newellaw01.TokensNames', WHERE WHAT IT READS IS OF BULK AT MOST 1048576: true; the input reads as it did. -/
def tokensNamesUptoRow : OpenClaim := { program := "ytcdidmohgcegmaadoor", sum := "95f0839acb930db89cc3f0f02542eb56412c6ac6b05e9ee2dcdd5fe1128646b8", func := "newel/newellaw01.TokensNames", spec := "tokensNames", inPlace := ["internal/bytealg.IndexByteString"], unfollowed := true, recurses := true, named := ["newel/tokens.classes", "newel/tokens.keywords", "newel/tokens.firsts"], apart := false, laid := [("newel/tokens.classes", laid_newel_tokens_classes), ("newel/tokens.keywords", laid_newel_tokens_keywords), ("newel/tokens.firsts", laid_newel_tokens_firsts)], narrowed := true }
def TokensNamesUptoSaid : Prop := tokensNamesUptoRow.holds Tryd.pinned (OpenSpec.upto tokensNamesSpec)

/-- 'newellaw01.TokensBack', WHERE WHAT IT READS IS OF BULK AT MOST 1048576: true; the input reads as it did. -/
def tokensBackUptoRow : OpenClaim := { program := "ytcdidmohgcegmaadoor", sum := "95f0839acb930db89cc3f0f02542eb56412c6ac6b05e9ee2dcdd5fe1128646b8", func := "newel/newellaw01.TokensBack", spec := "tokensBack", inPlace := ["internal/abi.NoEscape", "internal/bytealg.IndexByteString"], unfollowed := true, recurses := true, named := ["newel/tokens.classes", "newel/tokens.keywords"], apart := false, laid := [("newel/tokens.classes", laid_newel_tokens_classes), ("newel/tokens.keywords", laid_newel_tokens_keywords)], narrowed := true }
def TokensBackUptoSaid : Prop := tokensBackUptoRow.holds Tryd.pinned (OpenSpec.upto tokensBackSpec)

/-- 'newellaw01.TokensMatch', WHERE WHAT IT READS IS OF BULK AT MOST 1048576: true; the input reads as it did. -/
def tokensMatchUptoRow : OpenClaim := { program := "ytcdidmohgcegmaadoor", sum := "95f0839acb930db89cc3f0f02542eb56412c6ac6b05e9ee2dcdd5fe1128646b8", func := "newel/newellaw01.TokensMatch", spec := "tokensMatch", unfollowed := true, recurses := true, named := ["newel/tokens.classes", "newel/tokens.keywords"], apart := false, laid := [("newel/tokens.classes", laid_newel_tokens_classes), ("newel/tokens.keywords", laid_newel_tokens_keywords)], narrowed := true }
def TokensMatchUptoSaid : Prop := tokensMatchUptoRow.holds Tryd.pinned (OpenSpec.upto tokensMatchSpec)

/-- 'newellaw01.TokensSpaces', WHERE WHAT IT READS IS OF BULK AT MOST 1048576: true; the input reads as it did. -/
def tokensSpacesUptoRow : OpenClaim := { program := "ytcdidmohgcegmaadoor", sum := "95f0839acb930db89cc3f0f02542eb56412c6ac6b05e9ee2dcdd5fe1128646b8", func := "newel/newellaw01.TokensSpaces", spec := "tokensSpaces", unfollowed := true, recurses := true, named := ["newel/tokens.classes", "newel/tokens.keywords"], apart := false, laid := [("newel/tokens.classes", laid_newel_tokens_classes), ("newel/tokens.keywords", laid_newel_tokens_keywords)], narrowed := true }
def TokensSpacesUptoSaid : Prop := tokensSpacesUptoRow.holds Tryd.pinned (OpenSpec.upto tokensSpacesSpec)

end Rows
end Go.Proofs.YtcdidmohgcegmaaDoor
