/- What the listed tables give the walks (Gl), a start that meets the condition, and the frame of a law over one string. Conditions: none beyond the rows' own. -/
import Derived.Test.YtcdidmohgcegmaaDoorBase
import Derived.ProofKit
import Derived.LaidMore
import Derived.OpenShut
import Derived.Stop.Joined
import Derived.Below
import Derived.ChangeSame
namespace Go.Proofs.YtcdidmohgcegmaaDoor
open Go.ChangeShapes Go.WideShapes Go.ChangeAt Go.WideElems Go.RowKit
set_option maxRecDepth 100000

section
variable {H : Type} {enc : TypeId × Value → H} {P : Program}
theorem post_below {f : Func} {s : ChangeSpec} {apart fresh handsOn again : Bool} {W W' : World} {args : Array Value} {v : Value} {ds gs : List (DataW H)} {before pa pv : List MemPlace}
    (hW : DataW.Whole enc P f.params.toList s.vars apart W args.toList ds gs before)
    (hres : ∀ (b : Nat) (sp : Nat → Bool) (hd : Bool), DataW.TrodAll enc P W' b sp hd f.resultTypes.toList (v.resultList f.resultTypes.size) (s.fn H (ds ++ gs)).results [])
    (hargs : ∀ sp : Nat → Bool, (∀ p ∈ before, sp p.block = true) → DataW.TrodAll enc P W' 0 sp true f.params.toList args.toList (s.fn H (ds ++ gs)).args pa)
    (hvars : ∀ sp : Nat → Bool, (∀ p ∈ before, sp p.block = true) → DataW.TrodVars enc P W' sp s.vars (s.fn H (ds ++ gs)).vars pv)
    (hps : before = pa ++ pv) (hb : Below W.heap.size W W')
    (hok : ∀ (j : Nat) (t : TypeId) (r : Value), f.resultTypes[j]? = some t → (v.resultList f.resultTypes.size)[j]? = some r → Value.okWide P W' .any 0 t r) :
    s.post enc P f apart fresh handsOn again W args v W' := by
  have hlt : ∀ p ∈ before, p.block < W.heap.size := fun p hp => hW.lt p hp
  have hold : ∀ p ∈ before, (fun b => decide (b < W.heap.size)) p.block = true := fun p hp => by simpa using hlt p hp
  refine ⟨ds, gs, before, [], pa, pv, hW, hres _ _ _, hargs _ hold, hvars _ hold, World.keptBut_mono (fun p hp => ⟨hp, ?_⟩) (hb.frame (· ∈ before)), fun _ => ?_⟩
  · rw [hps, List.mem_append] at hp
    exact Or.inr hp
  · obtain ⟨_, _, _, _, _, hz, hn⟩ := hW
    refine ⟨hok, _, _, ([] ++ pa) ++ pv, ⟨[] ++ pa, pv, trodAll_append (hargs _ (fun _ _ => rfl)) (hres _ _ _), hvars _ (fun _ _ => rfl), rfl, ?_, ?_⟩, ?_⟩
    · intro b off hp
      have hin : MemPlace.cell b off ∈ before := by rw [hps]; simpa using hp
      rw [hb.frozen (hlt _ hin)]
      exact hz b off hin
    · intro ha
      have := hn ha
      rw [hps] at this
      simpa using this
    · intro p hp _
      rw [hps]
      simpa using hp
end

theorem own : ownKnob Tryd.prog.godebug = none := by kernel_rfl
theorem gCls : Tryd.prog.globalNamed "newel/tokens.classes" = some 2 := by kernel_rfl
theorem gKw : Tryd.prog.globalNamed "newel/tokens.keywords" = some 0 := by kernel_rfl
theorem tCls : (Tryd.prog.globals[2]?).map (·.type) = some 65 := by kernel_rfl
theorem tKw : (Tryd.prog.globals[0]?).map (·.type) = some 38 := by kernel_rfl
abbrev laidTwo {H : Type} : List (String × DataW H) := [("newel/tokens.classes", Rows.laid_newel_tokens_classes), ("newel/tokens.keywords", Rows.laid_newel_tokens_keywords)]

theorem door_met (os : Os) (args : Array Value) : laidMetH Tryd.prog laidTwo ((World.doorLaid Tryd.prog 400 os).forCall (fun _ _ => 0) ⟨#[], args, []⟩).memory :=
  laidMetH_of_parts3 (fuel := 8) (laidMet_of_run' 8 (by kernel_rfl) (by kernel_rfl)) (by kernel_rfl) (by kernel_rfl)

/-- An array's datum, cell by cell. -/
theorem arr_cells {H : Type} {enc : TypeId × Value → H} {P : Program} {w : World} {sp : Nat → Bool} {hd : Bool} {base fuel n : Nat} {t e : TypeId} {cs : List Value} {ps : List MemPlace} {vs : List Value} {f : Value → DataW H}
    (ht : P.underlying t = some (.array n e)) (hce : P.cellsOf e = 1) (hct : P.cellsOf t = n) (hlen : vs.length = n)
    (hone : ∀ (m : Nat) (c : List Value) (x : DataW H × List MemPlace) (v : Value), v ∈ vs → DataW.trod enc P w base sp hd m e c = some x → x.1 = f v → c = [v])
    (h : DataW.trod enc P w base sp hd fuel t cs = some (.agg (vs.map f), ps)) : cs = vs := by
  obtain ⟨xs, m, _, hx, hl, hn, hel⟩ := DataW.trod_array ht h
  simp only [Prod.mk.injEq, DataW.agg.injEq] at hx
  obtain ⟨hx1, _⟩ := hx
  apply List.ext_getElem?
  intro i
  by_cases hi : i < n
  · have h1 := hel i hi
    rw [hce, Nat.mul_one] at h1
    have hxi : i < xs.length := by omega
    have hvi : i < vs.length := by omega
    rw [List.getElem?_eq_getElem hxi] at h1
    have h2 : xs[i].1 = f vs[i] := by
      have := congrArg (fun l : List (DataW H) => l[i]?) hx1
      simp only [List.getElem?_map, List.getElem?_eq_getElem hxi, List.getElem?_eq_getElem hvi, Option.map_some, Option.some.injEq] at this
      exact this.symm
    have h3 := hone _ _ _ _ (List.getElem_mem hvi) h1 h2
    have h4 := congrArg (fun l : List Value => l[0]?) h3
    simp only [List.getElem?_take, List.getElem?_drop, Nat.add_zero, List.getElem?_cons_zero] at h4
    rw [List.getElem?_eq_getElem hvi]
    simpa using h4
  · rw [List.getElem?_eq_none (by omega), List.getElem?_eq_none (by omega)]

def intD : Value → DataW Unit
  | .int k n => .lit (.int k n)
  | _ => .nil
def strD : Value → DataW Unit
  | .string b => .lit (.string b.data.toList)
  | _ => .nil
theorem cls_one {w : World} {base : Nat} {sp : Nat → Bool} {hd : Bool} (m : Nat) (c : List Value) (x : DataW Unit × List MemPlace) (v : Value) (hv : v ∈ clsL.map fun (n : Nat) => Value.int .u8 (n : Int))
    (h : DataW.trod (fun _ => ()) Tryd.prog w base sp hd m 5 c = some x) (hx : x.1 = intD v) : c = [v] := by
  obtain ⟨n, rfl, rfl, _⟩ := DataW.trod_int Tryd.underlying5 h
  obtain ⟨k, _, rfl⟩ := List.mem_map.1 hv
  simp only [intD, DataW.lit.injEq, Lit.int.injEq, true_and] at hx
  rw [hx]
theorem kw_one {w : World} {base : Nat} {sp : Nat → Bool} {hd : Bool} (m : Nat) (c : List Value) (x : DataW Unit × List MemPlace) (v : Value) (hv : v ∈ kwL.map fun l => Value.string ⟨l.toArray⟩)
    (h : DataW.trod (fun _ => ()) Tryd.prog w base sp hd m 9 c = some x) (hx : x.1 = strD v) : c = [v] := by
  obtain ⟨s, rfl, rfl, _⟩ := DataW.trod_string Tryd.underlying9 h
  obtain ⟨k, _, rfl⟩ := List.mem_map.1 hv
  simp only [strD, DataW.lit.injEq, Lit.string.injEq] at hx
  obtain ⟨⟨l⟩⟩ := s
  simp only at hx
  rw [hx]

/-- WHAT THE CONDITION GIVES THE WALKS. -/
theorem gl_of_laid {W : World} (h : laidMetH Tryd.prog laidTwo W) : Gl W := by
  rw [MakeChecks.laidMetH_plain _ _ _ (by kernel_rfl)] at h
  obtain ⟨ps, ⟨g0, t0, cs0, f0, p0, q0, hg0, ht0, hv0, hd0, ⟨g1, t1, cs1, f1, p1, q1, hg1, ht1, hv1, hd1, _, _⟩, _⟩, _, _⟩ := h
  obtain rfl := Option.some.inj (gCls.symm.trans hg0)
  obtain rfl := Option.some.inj (gKw.symm.trans hg1)
  obtain rfl := Option.some.inj (tCls.symm.trans ht0)
  obtain rfl := Option.some.inj (tKw.symm.trans ht1)
  have e0 : cs0.toList = clsL.map fun (n : Nat) => Value.int .u8 (n : Int) :=
    arr_cells (n := 128) (f := intD) Tryd.underlying65 (by kernel_rfl) (by kernel_rfl) (by kernel_rfl) cls_one (show DataW.trod _ _ _ _ _ _ _ _ _ = some (.agg _, _) from hd0)
  have e1 : cs1.toList = kwL.map fun l => Value.string ⟨l.toArray⟩ :=
    arr_cells (n := 42) (f := strD) Tryd.underlying38 (by kernel_rfl) (by kernel_rfl) (by kernel_rfl) kw_one (show DataW.trod _ _ _ _ _ _ _ _ _ = some (.agg _, _) from hd1)
  simp only [World.var?, gCls, gKw, Option.bind_some] at hv0 hv1
  split at hv0
  · rename_i c t fr hb0
    cases hv0
    split at hv1
    · rename_i c1 t1 fr1 hb1
      cases hv1
      refine ⟨?_, ⟨t, fr, ?_⟩, t1, fr1, ?_⟩
      · rcases Nat.lt_or_ge 2 W.heap.size with hlt | hge
        · exact hlt
        · rw [Array.getElem?_eq_none hge] at hb0; cases hb0
      · rw [hb0]
        obtain ⟨l⟩ := cs0
        simp only at e0
        rw [e0]; rfl
      · rw [hb1]
        obtain ⟨l⟩ := cs1
        simp only at e1
        rw [e1]; rfl
    · cases hv1
  · cases hv0
end Go.Proofs.YtcdidmohgcegmaaDoor
