/- SymbolsFinds, as a function of what awake and the program's FindClass give: the law's own walk. -/
import Derived.Test.YtfbaikijnjafbaaGreatDoorRa
import Derived.Test.YtfbaikijnjafbaaGreatDoorFe
import Derived.Test.YtfbaikijnjafbaaGreatDoorAw
namespace Go.Proofs.YtfbaikijnjafbaaGreatDoor
set_option linter.unusedSimpArgs false
set_option linter.unusedVariables false
open Go.RowKit
set_option maxRecDepth 100000

section
variable {ok ok' : Nat → Prop} {w : World}
theorem IntsL.imp {s : Sl Int} (h : IntsL ok w s) (hb : ∀ k, ok k → ok' k) : IntsL ok' w s := ⟨h.1.imp hb, h.2⟩
theorem ClsL.imp {c : Cls} (h : ClsL ok w c) (hb : ∀ k, ok k → ok' k) : ClsL ok' w c := by
  obtain ⟨h1, h2, ⟨a1, a2, a3, a4, a5⟩, b1, b2, b3⟩ := h
  exact ⟨h1, h2, ⟨a1.imp hb, a2.imp hb, a3.imp hb, a4.imp hb, a5.imp hb⟩, b1.imp hb, b2.imp hb, b3.imp hb⟩
theorem BodyL.imp {x : Option (Addr × Tre)} (h : BodyL ok w x) (hb : ∀ k, ok k → ok' k) : BodyL ok' w x := by
  match x, h with
  | none, _ => trivial
  | some (a, T), ⟨b, o, h1, h2, h3, h4⟩ => exact ⟨b, o, h1, hb b h2, h3, h4.imp hb⟩
theorem MthL.imp {c : Mth} (h : MthL ok w c) (hb : ∀ k, ok k → ok' k) : MthL ok' w c := by
  obtain ⟨h1, h2, h3, ⟨h4, h5⟩, h6, h7⟩ := h
  exact ⟨h1, h2, h3.imp hb, ⟨h4.imp hb, fun x hx => (h5 x hx).imp hb⟩, h6.imp hb, h7.imp hb⟩
theorem FldL.imp {c : Fld} (h : FldL ok w c) (hb : ∀ k, ok k → ok' k) : FldL ok' w c := ⟨h.1, h.2.1, h.2.2.imp hb⟩
theorem TpmL.imp {c : Tpm} (h : TpmL ok w c) (hb : ∀ k, ok k → ok' k) : TpmL ok' w c := ⟨h.1, h.2.1, h.2.2.1.imp hb, h.2.2.2.imp hb⟩
theorem PrgL.imp {p : Prg} (h : PrgL ok w p) (hb : ∀ k, ok k → ok' k) : PrgL ok' w p :=
  ⟨h.cls.imp hb, fun c hc => (h.clsL c hc).imp hb, h.mth.imp hb, fun c hc => (h.mthL c hc).imp hb, h.fld.imp hb, fun c hc => (h.fldL c hc).imp hb,
    h.tpm.imp hb, fun c hc => (h.tpmL c hc).imp hb, h.tym.imp hb, fun c hc => (h.tymL c hc).imp hb, h.main⟩
end

end Go.Proofs.YtfbaikijnjafbaaGreatDoor
