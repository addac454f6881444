/- What the listed table gives the walks (Gl), a start that meets the condition, and the frame of a law. Conditions: none beyond the rows' own. -/
import Derived.Test.YtfbaikijnjafbaaGreatDoorSa
import Derived.Test.YtfbaikijnjafbaaGreatDoorTie
import Derived.ProofKit
import Derived.LaidMore
import Derived.OpenShut
import Derived.Stop.Joined
import Derived.Below
import Derived.ChangeSame
namespace Go.Proofs.YtfbaikijnjafbaaGreatDoor
set_option linter.unusedSimpArgs false
set_option linter.unusedVariables false
open Go.ChangeShapes Go.WideShapes Go.ChangeAt Go.WideElems Go.RowKit
set_option maxRecDepth 100000

section
variable {H : Type} {enc : TypeId × Value → H} {P : Program}
theorem post_below {f : Func} {s : ChangeSpec} {apart fresh handsOn again : Bool} {W W' : World} {args : Array Value} {v : Value} {ds gs : List (DataW H)} {before pa pv : List MemPlace}
    (hW : DataW.Whole enc P f.params.toList s.vars apart W args.toList ds gs before)
    (hres : ∀ (b : Nat) (sp : Nat → Bool) (hd : Bool), DataW.TrodAll enc P W' b sp hd f.resultTypes.toList (v.resultList f.resultTypes.size) (s.fn H (ds ++ gs)).results [])
    (hargs : ∀ sp : Nat → Bool, (∀ p ∈ before, sp p.block = true) → DataW.TrodAll enc P W' 0 sp true f.params.toList args.toList (s.fn H (ds ++ gs)).args pa)
    (hvars : ∀ sp : Nat → Bool, (∀ p ∈ before, sp p.block = true) → DataW.TrodVars enc P W' sp s.vars (s.fn H (ds ++ gs)).vars pv)
    (hps : before = pa ++ pv) (hb : Below W.heap.size W W')
    (hok : ∀ (j : Nat) (t : TypeId) (r : Value), f.resultTypes[j]? = some t → (v.resultList f.resultTypes.size)[j]? = some r → Value.okWide P W' .any 0 t r) :
    s.post enc P f apart fresh handsOn again W args v W' := by
  have hlt : ∀ p ∈ before, p.block < W.heap.size := fun p hp => hW.lt p hp
  have hold : ∀ p ∈ before, (fun b => decide (b < W.heap.size)) p.block = true := fun p hp => by simpa using hlt p hp
  refine ⟨ds, gs, before, [], pa, pv, hW, hres _ _ _, hargs _ hold, hvars _ hold, World.keptBut_mono (fun p hp => ⟨hp, ?_⟩) (hb.frame (· ∈ before)), fun _ => ?_⟩
  · rw [hps, List.mem_append] at hp
    exact Or.inr hp
  · obtain ⟨_, _, _, _, _, hz, hn⟩ := hW
    refine ⟨hok, _, _, ([] ++ pa) ++ pv, ⟨[] ++ pa, pv, trodAll_append (hargs _ (fun _ _ => rfl)) (hres _ _ _), hvars _ (fun _ _ => rfl), rfl, ?_, ?_⟩, ?_⟩
    · intro b off hp
      have hin : MemPlace.cell b off ∈ before := by rw [hps]; simpa using hp
      rw [hb.frozen (hlt _ hin)]
      exact hz b off hin
    · intro ha
      have := hn ha
      rw [hps] at this
      simpa using this
    · intro p hp _
      rw [hps]
      simpa using hp
end

theorem own : ownKnob Tryz.prog.godebug = none := by kernel_rfl
theorem gPm : Tryz.prog.globalNamed "newel/symbols.permitted" = some 0 := by kernel_rfl
theorem tPm : (Tryz.prog.globals[0]?).map (·.type) = some 160 := by kernel_rfl
abbrev laidOne {H : Type} : List (String × DataW H) := [("newel/symbols.permitted", Rows.laid_newel_symbols_permitted)]

theorem door_met (os : Os) (args : Array Value) : laidMetH Tryz.prog laidOne ((World.doorLaid Tryz.prog 400 os).forCall (fun _ _ => 0) ⟨#[], args, []⟩).memory :=
  laidMetH_of_parts3 (fuel := 8) (laidMet_of_run' 8 (by kernel_rfl) (by kernel_rfl)) (by kernel_rfl) (by kernel_rfl)

/-- An array's datum, cell by cell. -/
theorem arr_cells {H : Type} {enc : TypeId × Value → H} {P : Program} {w : World} {sp : Nat → Bool} {hd : Bool} {base fuel n : Nat} {t e : TypeId} {cs : List Value} {ps : List MemPlace} {vs : List Value} {f : Value → DataW H}
    (ht : P.underlying t = some (.array n e)) (hce : P.cellsOf e = 1) (hct : P.cellsOf t = n) (hlen : vs.length = n)
    (hone : ∀ (m : Nat) (c : List Value) (x : DataW H × List MemPlace) (v : Value), v ∈ vs → DataW.trod enc P w base sp hd m e c = some x → x.1 = f v → c = [v])
    (h : DataW.trod enc P w base sp hd fuel t cs = some (.agg (vs.map f), ps)) : cs = vs := by
  obtain ⟨xs, m, _, hx, hl, hn, hel⟩ := DataW.trod_array ht h
  simp only [Prod.mk.injEq, DataW.agg.injEq] at hx
  obtain ⟨hx1, _⟩ := hx
  apply List.ext_getElem?
  intro i
  by_cases hi : i < n
  · have h1 := hel i hi
    rw [hce, Nat.mul_one] at h1
    have hxi : i < xs.length := by omega
    have hvi : i < vs.length := by omega
    rw [List.getElem?_eq_getElem hxi] at h1
    have h2 : xs[i].1 = f vs[i] := by
      have := congrArg (fun l : List (DataW H) => l[i]?) hx1
      simp only [List.getElem?_map, List.getElem?_eq_getElem hxi, List.getElem?_eq_getElem hvi, Option.map_some, Option.some.injEq] at this
      exact this.symm
    have h3 := hone _ _ _ _ (List.getElem_mem hvi) h1 h2
    have h4 := congrArg (fun l : List Value => l[0]?) h3
    simp only [List.getElem?_take, List.getElem?_drop, Nat.add_zero, List.getElem?_cons_zero] at h4
    rw [List.getElem?_eq_getElem hvi]
    simpa using h4
  · rw [List.getElem?_eq_none (by omega), List.getElem?_eq_none (by omega)]

def intD : Value → DataW Unit
  | .int k n => .lit (.int k n)
  | _ => .nil
theorem pm_one {w : World} {base : Nat} {sp : Nat → Bool} {hd : Bool} (m : Nat) (c : List Value) (x : DataW Unit × List MemPlace) (v : Value) (hv : v ∈ pmL.map I)
    (h : DataW.trod (fun _ => ()) Tryz.prog w base sp hd m 3 c = some x) (hx : x.1 = intD v) : c = [v] := by
  obtain ⟨n, rfl, rfl, _⟩ := DataW.trod_int Tryz.underlying3 h
  obtain ⟨k, _, rfl⟩ := List.mem_map.1 hv
  simp only [intD, DataW.lit.injEq, Lit.int.injEq, true_and] at hx
  rw [hx]

/-- WHAT THE CONDITION GIVES THE WALKS. -/
theorem gl_of_laid {W : World} (h : laidMetH Tryz.prog laidOne W) : Gl W := by
  rw [MakeChecks.laidMetH_plain _ _ _ (by kernel_rfl)] at h
  obtain ⟨ps, ⟨g0, t0, cs0, f0, p0, q0, hg0, ht0, hv0, hd0, _, _⟩, _, _⟩ := h
  obtain rfl := Option.some.inj (gPm.symm.trans hg0)
  obtain rfl := Option.some.inj (tPm.symm.trans ht0)
  have e0 : cs0.toList = pmL.map I :=
    arr_cells (n := 8) (f := intD) Tryz.underlying160 (by kernel_rfl) (by kernel_rfl) (by kernel_rfl) pm_one (show DataW.trod _ _ _ _ _ _ _ _ _ = some (.agg _, _) from hd0)
  simp only [World.var?, gPm, Option.bind_some] at hv0
  split at hv0
  · rename_i c t fr hb0
    cases hv0
    refine ⟨?_, t, fr, ?_⟩
    · rcases Nat.lt_or_ge 0 W.heap.size with hlt | hge
      · exact hlt
      · rw [Array.getElem?_eq_none hge] at hb0; cases hb0
    · rw [hb0]
      obtain ⟨l⟩ := cs0
      simp only at e0
      rw [e0]
  · cases hv0
end Go.Proofs.YtfbaikijnjafbaaGreatDoor
