/- SymbolsNames, SymbolsFinds, as functions of what awake, IsName and FindClass give: the law's own walk. -/
import Derived.Test.YtfbaikijnjafbaaDoorNa
import Derived.Test.YtfbaikijnjafbaaDoorRa
import Derived.Test.YtfbaikijnjafbaaDoorFe
namespace Go.Proofs.YtfbaikijnjafbaaDoor
set_option linter.unusedSimpArgs false
set_option linter.unusedVariables false
open Go.RowKit
set_option maxRecDepth 100000

/-- The law over names answers true wherever awake does, and both IsNames are nameM. -/
theorem names_law (G : World → Prop) (hG : ∀ w w', G w → Below w.heap.size w w' → G w')
    (ha : ∀ w, G w → Calls Tryd.prog 7 #[] w fun e w' => e = .returned (.bool true) ∧ Below w.heap.size w w')
    (hd : ∀ s w, G w → Calls Tryd.prog 8 #[.string s] w fun e w' => e = .returned (.bool (nameM s)) ∧ Below w.heap.size w w')
    (s : ByteArray) (w : World) (hw : G w) : Calls Tryd.prog 3 #[.string s] w fun e w' => e = .returned (.bool true) ∧ Below w.heap.size w w' := by
  by_cases h : 1000 < s.size
  · have d1 : decide ((1000 : Int) < (s.size : Int)) = true := decide_eq_true (by omega)
    clear h
    go_enter Tryd.func3, Tryd.ntmps3
    go_wp2_with fail
    go_ret
    exact ⟨rfl, Below.refl _ _⟩
  · have d1 : decide ((1000 : Int) < (s.size : Int)) = false := decide_eq_false (by omega)
    have HA := Lib.hid (ha w hw)
    have HD := Lib.hid (fun w' (hb : Below w.heap.size w w') => hd s w' (hG _ _ hw hb))
    clear h ha hd hG hw
    go_enter Tryd.func3, Tryd.ntmps3
    go_wp2_with (first
      | (go_at_call 7; refine HA.out.mono ?_; rintro e w1 ⟨rfl, hb1⟩)
      | (go_at_call 8; refine (HD.out _ hb1).mono ?_; rintro e w2 ⟨rfl, hb2⟩)
      | (go_at_call 9; refine (name16_any s _).mono ?_; rintro e w3 ⟨rfl, rfl⟩))
    all_goals go_ret
    all_goals exact ⟨congrArg (fun b => Ending.returned (Value.bool b)) (by simp), hb1.trans (hb2.mono hb1.size)⟩
end Go.Proofs.YtfbaikijnjafbaaDoor
