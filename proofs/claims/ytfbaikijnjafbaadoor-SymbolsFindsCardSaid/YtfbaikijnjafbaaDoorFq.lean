/- SymbolsFinds: for every program, owner and pair of ints, the law answers true and leaves its arguments alone. Conditions: the listed table of flags starts as the program's text lays it (the card ties it); no ring in the inputs (the row's own cell). -/
import Derived.Test.YtfbaikijnjafbaaDoorSw
import Derived.Test.YtfbaikijnjafbaaDoorLf
import Derived.Test.YtfbaikijnjafbaaDoorSm
import Derived.Test.YtfbaikijnjafbaaDoorOp
import Derived.Test.YtfbaikijnjafbaaDoorHol
import Derived.Test.YtfbaikijnjafbaaDoorTie
import Derived.Test.YtfbaikijnjafbaaDoorCards
import Derived.Carry
namespace Go.Proofs.YtfbaikijnjafbaaDoor
set_option linter.unusedSimpArgs false
set_option linter.unusedVariables false
open Go.ChangeShapes Go.WideShapes Go.ChangeAt Go.WideElems Go.RowKit Go.ChangeMaps
set_option maxRecDepth 100000

theorem finds_any (p : Prg) (owner a b : Int) (w : World) (hw : Gl w) (hp : PrgL (inW w) w p) : Calls Tryd.prog 4 #[p.agg, I owner, .agg #[I a, I b]] w fun e w' => e = .returned (.bool true) ∧ Below w.heap.size w w' :=
  finds_law Gl (fun _ _ h hb => h.below hb h.1) awake_any (fun _ p owner name object w _ hp hok => find11_any p owner name object w hp hok) p owner a b w hw hp

theorem mem_each {H : Type} {P : Program} : ∀ {ts : List TypeId} {l : List (DataW H)} {t : TypeId} {d : DataW H} {y : Nat} (i : Nat) (_ : ts[i]? = some t) (_ : l[i]? = some d) (_ : y ∈ DataW.weights P t d), y ∈ DataW.weightsEach P ts l :=
  fun i h1 h2 h3 => mem_weightsEach (i := i) h1 h2 h3

section
variable {H : Type} {enc : TypeId × Value → H}
theorem open_prg {W : World} {base : Nat} {v : Value} {d : DataW H} {ps : List MemPlace} (hv : Value.okWide Tryd.prog W .any base 30 v) (h : DataW.Trod enc Tryd.prog W 0 (fun _ => true) true 30 v d ps)
    (hw : ∀ y ∈ DataW.weights Tryd.prog 30 d, y ≤ reachBytes) : ∃ p : Prg, v = p.agg ∧ PrgL (inW W) W p := by
  obtain ⟨cs, rfl, hsz⟩ := okWide_struct Tryd.underlying30 hv
  obtain ⟨n, hn⟩ := h
  obtain ⟨p, hp, hl⟩ := prg_of (enc := enc) (w := W) (n := n) (cs := cs.toList) ⟨_, hn, hw⟩
  refine ⟨p, ?_, hl⟩
  obtain ⟨l⟩ := cs
  simp only at hp
  rw [hp]
  rfl

theorem open_pair {W : World} {base : Nat} {v : Value} {d : DataW H} {ps : List MemPlace} (hv : Value.okWide Tryd.prog W .any base 31 v) (h : DataW.Trod enc Tryd.prog W 0 (fun _ => true) true 31 v d ps) : ∃ a b, v = .agg #[I a, I b] := by
  have hv' := hv
  simp only [Value.okWide, Tryd.underlying31] at hv'
  obtain ⟨cs, rfl, _⟩ := hv'
  obtain ⟨n, hn⟩ := h
  obtain ⟨xs, m, _, hx, hl, hlen, hel⟩ := DataW.trod_array Tryd.underlying31 hn
  obtain ⟨l⟩ := cs
  rw [show Tryd.prog.cellsOf 31 = 2 by kernel_rfl] at hl
  have e0 := hel 0 (by omega)
  have e1 := hel 1 (by omega)
  rw [cells3] at e0 e1
  match l, hl with
  | [c0, c1], _ =>
    rw [List.getElem?_eq_getElem (by omega)] at e0 e1
    obtain ⟨a, ha, _⟩ := DataW.trod_int Tryd.underlying3 e0
    obtain ⟨b, hb, _⟩ := DataW.trod_int Tryd.underlying3 e1
    obtain rfl : c0 = I a := by simpa [I, Value.cells] using ha
    obtain rfl : c1 = I b := by simpa [I, Value.cells] using hb
    exact ⟨a, b, rfl⟩
end
theorem laidOut : laidOutB Tryd.prog = true := by kernel_rfl

theorem finds_lifted (os : Os) (started : os.Started) (H : Type) (enc : TypeId × Value → H) :
    ReturnsInHanded {} Tryd.checked os 4 .any (fun w args => (Rows.symbolsFindsSpec.pre enc Tryd.prog Tryd.f4 [] false w args ∧ laidMetH Tryd.prog laidOne w) ∧ sizedMet enc Tryd.prog Tryd.f4 (OpenSpec.ofChange Rows.symbolsFindsSpec) false w args)
      (Rows.symbolsFindsSpec.post enc Tryd.prog Tryd.f4 false true false false) := by
  refine returnsInHanded_of_change_and (C := Tryd.checked) (X := fun w _ => laidMetH Tryd.prog laidOne w) (fun _ _ _ hh h => h.of_heap hh) own started (by kernel_rfl) Tryd.func4
    (ChangeSpec.witness_shaped (enc := enc) (C := Tryd.checked) (os := os) (X := fun w _ => laidMetH Tryd.prog laidOne w) false (World.doorLaid Tryd.prog 400 os) #[.agg #[.slice none 0 0, .slice none 0 0, .slice none 0 0, .slice none 0 0, .slice none 0 0, .int .i64 0], .int .i64 0, .agg #[.int .i64 0, .int .i64 0]] 8 rfl (World.shaped_of_RefB (by kernel_rfl) (by kernel_rfl)) (by kernel_rfl) (by kernel_rfl) (by kernel_rfl) (door_met os _)) ?_
  intro W base args ds gs before hval0 hW _ hsz hL _
  have hval : ∀ (j : Nat) t v, Tryd.f4.params[j]? = some t → args[j]? = some v → Value.okWide Tryd.prog W .any base t v := hval0
  have hW' := hW
  obtain ⟨p, q, hA0, hV, rfl, hfz, hnd⟩ := hW
  have hA : DataW.TrodAll enc Tryd.prog W 0 (fun _ => true) true Tryd.f4.params.toList args.toList ds p := hA0
  have hS : ∀ y ∈ DataW.weightsEach Tryd.prog (Tryd.f4.params.toList ++ DataSpec.varTypes Tryd.prog Rows.symbolsFindsSpec.plain) (ds ++ gs), y ≤ reachBytes := fun y hy => by simpa using List.all_eq_true.1 hsz y hy
  rw [Tryd.params4] at hA hval hS
  obtain ⟨v0, v1, v2, d0, d1, d2, p0, p1, p2, rfl, rfl, rfl, h0, h1, h2⟩ := trodAll_three hA
  obtain ⟨rfl, rfl⟩ := trodVars_none hV
  have h0k := h0
  have h2k := h2
  have ok0 := hval 0 30 v0 rfl rfl
  have ok2 := hval 2 31 v2 rfl rfl
  obtain ⟨P, rfl, hP⟩ := open_prg ok0 h0 (fun y hy => hS y (mem_each 0 rfl rfl hy))
  obtain ⟨n, rfl, rfl, rfl, wn⟩ := open_int Tryd.underlying3 (hval 1 3 v1 rfl rfl) h1
  obtain ⟨a, b, rfl⟩ := open_pair ok2 h2
  clear hA0 hval0 h0 h1 h2
  have hlt : ∀ x ∈ p0 ++ [] ++ p2 ++ [], x.block < W.heap.size := fun x hx => hW'.lt x hx
  refine (finds_any P n a b W (gl_of_laid hL) hP).mono fun e W' ⟨he, hb⟩ => ?_
  subst he
  refine ⟨_, rfl, post_below (pa := p0 ++ ([] ++ p2)) (pv := []) hW' (fun _ _ _ => trodAll_mk1 (shut_bool Tryd.underlying4 true)) (fun sp hsp => ?_) (fun _ _ => rfl) (by simp) hb
    (ok_one (by kernel_rfl) rfl (okWide_bool_mk Tryd.underlying4 _))⟩
  rw [Tryd.params4]
  exact trodAll_mk3 (Trod_stays laidOut (by kernel_rfl) (of_decide_eq_true (by kernel_rfl)) h0k (fun x hx => hb.same (hlt x (by simp [hx]))) fun x hx => hsp x (by simp [hx])) (shut_int Tryd.underlying3 wn) (Trod_stays laidOut (by kernel_rfl) (of_decide_eq_true (by kernel_rfl)) h2k (fun x hx => hb.same (hlt x (by simp [hx]))) fun x hx => hsp x (by simp [hx]))

theorem symbolsFinds_row : Rows.SymbolsFindsSaid :=
  OpenClaim.holds_of_wide 4 Tryd.f4 rfl rfl rfl rfl rfl rfl rfl ⟨rfl, rfl, rfl, rfl, rfl⟩ rfl rfl rfl rfl rfl (by kernel_rfl) Tryd.func4 (by kernel_rfl)
    (of_decide_eq_true (by kernel_rfl)) (by unfold Func.isWrapper; first | (rw [if_pos (by decide +kernel)]; kernel_rfl) | (rw [if_neg (by decide +kernel)]; exact ⟨rfl, rfl⟩))
    (fun os started H enc _ => finds_lifted os started H enc)

theorem symbolsFinds_holds : Rows.SymbolsFindsCardSaid :=
  Claim7.holds_tied_plain_at .later [] [.data] true (true, "63ffc436c65e1b080e5e762e9ef0c02efb791d73d78873b65df7a9f891777e88") false
    symbolsFinds_row (fun _ h => by cases h) (by kernel_rfl) (fun _ h => by cases h) symbolsFinds_row_tie rfl ⟨rfl, rfl⟩ (by kernel_rfl) rfl
    (fun f fn hf hfn => by
      obtain rfl : f = 4 := Option.some.inj ((show Tryd.prog.funcNamed "newel/newellaw06.SymbolsFinds" = some 4 by kernel_rfl).symm.trans hf) |>.symm
      obtain rfl : fn = Tryd.f4 := (Option.some.inj (Tryd.func4.symm.trans hfn)).symm
      exact ⟨by kernel_rfl, fun j t ht => by
        rw [Tryd.params4] at ht
        have hm : t ∈ [30, 3, 31] := by simpa using Array.mem_of_getElem? ht
        have hall : ([30, 3, 31].all fun u => !Tryd.prog.wantsStandIn u) = true := by kernel_rfl
        exact (show Tryd.prog.wantsStandIn t = false by simpa using List.all_eq_true.1 hall t hm)⟩)
    (by kernel_rfl)
#print axioms symbolsFinds_holds
end Go.Proofs.YtfbaikijnjafbaaDoor
