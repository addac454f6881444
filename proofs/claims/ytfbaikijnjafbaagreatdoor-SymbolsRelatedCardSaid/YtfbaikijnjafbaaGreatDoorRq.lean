/- SymbolsRelated: for every program and pair of class numbers, the law answers true and leaves its arguments alone. Conditions: the listed table of flags starts as the program's text lays it (the card ties it); no ring in the inputs (the row's own cell). -/
import Derived.Test.YtfbaikijnjafbaaGreatDoorSw
import Derived.Test.YtfbaikijnjafbaaGreatDoorRl
import Derived.Test.YtfbaikijnjafbaaGreatDoorHol
import Derived.Test.YtfbaikijnjafbaaGreatDoorTie
import Derived.Test.YtfbaikijnjafbaaGreatDoorCards
import Derived.Carry
namespace Go.Proofs.YtfbaikijnjafbaaGreatDoor
set_option linter.unusedSimpArgs false
set_option linter.unusedVariables false
open Go.ChangeShapes Go.WideShapes Go.ChangeAt Go.WideElems Go.RowKit Go.ChangeMaps
set_option maxRecDepth 100000

theorem related_any (p : Prg) (a b : Int) (w : World) (hw : Gl w) (hp : PrgL (inW w) w p) (hwa : wf a) : Calls Tryz.prog 5 #[p.agg, I a, I b] w fun e w' => e = .returned (.bool true) ∧ Below w.heap.size w w' :=
  related_law Gl (fun _ _ h hb => h.below hb h.1) awake_any p a b w hw hp hwa


theorem mem_each {H : Type} {P : Program} : ∀ {ts : List TypeId} {l : List (DataW H)} {t : TypeId} {d : DataW H} {y : Nat} (i : Nat) (_ : ts[i]? = some t) (_ : l[i]? = some d) (_ : y ∈ DataW.weights P t d), y ∈ DataW.weightsEach P ts l :=
  fun i h1 h2 h3 => mem_weightsEach (i := i) h1 h2 h3

section
variable {H : Type} {enc : TypeId × Value → H}
theorem open_prg {W : World} {base : Nat} {v : Value} {d : DataW H} {ps : List MemPlace} (hv : Value.okWide Tryz.prog W .any base 28 v) (h : DataW.Trod enc Tryz.prog W 0 (fun _ => true) true 28 v d ps)
    (hw : ∀ y ∈ DataW.weights Tryz.prog 28 d, y ≤ reachBytes) : ∃ p : Prg, v = p.agg ∧ PrgL (inW W) W p := by
  obtain ⟨cs, rfl, hsz⟩ := okWide_struct Tryz.underlying28 hv
  obtain ⟨n, hn⟩ := h
  obtain ⟨p, hp, hl⟩ := prg_of (enc := enc) (w := W) (n := n) (cs := cs.toList) ⟨_, hn, hw⟩
  refine ⟨p, ?_, hl⟩
  obtain ⟨l⟩ := cs
  simp only at hp
  rw [hp]
  rfl
end
theorem laidOut : laidOutB Tryz.prog = true := by kernel_rfl

theorem symbolsRelated_lifted (os : Os) (started : os.Started) (H : Type) (enc : TypeId × Value → H) :
    ReturnsInHanded {} Tryz.checked os 5 .any (fun w args => (Rows.symbolsRelatedSpec.pre enc Tryz.prog Tryz.f5 [] false w args ∧ laidMetH Tryz.prog laidOne w) ∧ sizedMet enc Tryz.prog Tryz.f5 (OpenSpec.ofChange Rows.symbolsRelatedSpec) false w args)
      (Rows.symbolsRelatedSpec.post enc Tryz.prog Tryz.f5 false true false false) := by
  refine returnsInHanded_of_change_and (C := Tryz.checked) (X := fun w _ => laidMetH Tryz.prog laidOne w) (fun _ _ _ hh h => h.of_heap hh) own started (by kernel_rfl) Tryz.func5
    (ChangeSpec.witness_shaped (enc := enc) (C := Tryz.checked) (os := os) (X := fun w _ => laidMetH Tryz.prog laidOne w) false (World.doorLaid Tryz.prog 400 os) #[.agg #[.slice none 0 0, .slice none 0 0, .slice none 0 0, .slice none 0 0, .slice none 0 0, .int .i64 0], .int .i64 0, .int .i64 0] 8 rfl (World.shaped_of_RefB (by kernel_rfl) (by kernel_rfl)) (by kernel_rfl) (by kernel_rfl) (by kernel_rfl) (door_met os _)) ?_
  intro W base args ds gs before hval0 hW _ hsz hL _
  have hval : ∀ (j : Nat) t v, Tryz.f5.params[j]? = some t → args[j]? = some v → Value.okWide Tryz.prog W .any base t v := hval0
  have hW' := hW
  obtain ⟨p, q, hA0, hV, rfl, hfz, hnd⟩ := hW
  have hA : DataW.TrodAll enc Tryz.prog W 0 (fun _ => true) true Tryz.f5.params.toList args.toList ds p := hA0
  have hS : ∀ y ∈ DataW.weightsEach Tryz.prog (Tryz.f5.params.toList ++ DataSpec.varTypes Tryz.prog Rows.symbolsRelatedSpec.plain) (ds ++ gs), y ≤ reachBytes := fun y hy => by simpa using List.all_eq_true.1 hsz y hy
  rw [Tryz.params5] at hA hval hS

  obtain ⟨v0, v1, v2, d0, d1, d2, p0, p1, p2, rfl, rfl, rfl, h0, h1, h2⟩ := trodAll_three hA
  obtain ⟨rfl, rfl⟩ := trodVars_none hV
  have h0k := h0
  have ok0 := hval 0 28 v0 rfl rfl
  obtain ⟨P, rfl, hP⟩ := open_prg ok0 h0 (fun y hy => hS y (mem_each 0 rfl rfl hy))
  obtain ⟨n1, rfl, rfl, rfl, wn1⟩ := open_int Tryz.underlying3 (hval 1 3 v1 rfl rfl) h1
  obtain ⟨n2, rfl, rfl, rfl, wn2⟩ := open_int Tryz.underlying3 (hval 2 3 v2 rfl rfl) h2
  clear hA0 hval0 h0 h1 h2
  have hlt : ∀ x ∈ p0, x.block < W.heap.size := fun x hx => hW'.lt x (by simp [hx])
  refine (related_any P n1 n2 W (gl_of_laid hL) hP wn1).mono fun e W' ⟨he, hb⟩ => ?_
  subst he
  refine ⟨_, rfl, post_below (pa := p0 ++ ([] ++ [])) (pv := []) hW' (fun _ _ _ => trodAll_mk1 (shut_bool Tryz.underlying4 true)) (fun sp hsp => ?_) (fun _ _ => rfl) (by simp) hb
    (ok_one (by kernel_rfl) rfl (okWide_bool_mk Tryz.underlying4 _))⟩
  rw [Tryz.params5]
  exact trodAll_mk3 (Trod_stays laidOut (by kernel_rfl) (of_decide_eq_true (by kernel_rfl)) h0k (fun x hx => hb.same (hlt x hx)) fun x hx => hsp x (by simp [hx])) (shut_int Tryz.underlying3 wn1) (shut_int Tryz.underlying3 wn2)


theorem symbolsRelated_row : Rows.SymbolsRelatedSaid :=
  OpenClaim.holds_of_wide 5 Tryz.f5 rfl rfl rfl rfl rfl rfl rfl ⟨rfl, rfl, rfl, rfl, rfl⟩ rfl rfl rfl rfl rfl (by kernel_rfl) Tryz.func5 (by kernel_rfl)
    (of_decide_eq_true (by kernel_rfl)) (by unfold Func.isWrapper; first | (rw [if_pos (by decide +kernel)]; kernel_rfl) | (rw [if_neg (by decide +kernel)]; exact ⟨rfl, rfl⟩))
    (fun os started H enc _ => symbolsRelated_lifted os started H enc)

theorem symbolsRelated_holds : Rows.SymbolsRelatedCardSaid :=
  Claim7.holds_tied_plain_at .later [] [.data] true (true, "feb90e7a58c12a183d22802b37923d63f0d83a37747d7e2ee80e4c762d405b28") false
    symbolsRelated_row (fun _ h => by cases h) (by kernel_rfl) (fun _ h => by cases h) symbolsRelated_row_tie rfl ⟨rfl, rfl⟩ (by kernel_rfl) rfl
    (fun f fn hf hfn => by
      obtain rfl : f = 5 := Option.some.inj ((show Tryz.prog.funcNamed "newel/newellaw06.SymbolsRelated" = some 5 by kernel_rfl).symm.trans hf) |>.symm
      obtain rfl : fn = Tryz.f5 := (Option.some.inj (Tryz.func5.symm.trans hfn)).symm
      exact ⟨by kernel_rfl, fun j t ht => by
        rw [Tryz.params5] at ht
        have hm : t ∈ [28, 3, 3] := by simpa using Array.mem_of_getElem? ht
        have hall : ([28, 3, 3].all fun u => !Tryz.prog.wantsStandIn u) = true := by kernel_rfl
        exact (show Tryz.prog.wantsStandIn t = false by simpa using List.all_eq_true.1 hall t hm)⟩)
    (by kernel_rfl)
#print axioms symbolsRelated_holds
end Go.Proofs.YtfbaikijnjafbaaGreatDoor
