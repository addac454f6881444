/- Children of package symbols, and its model. Conditions: what each theorem names. -/
import Derived.Test.YtfbaikijnjafbaaGreatDoorSi
import Derived.Test.YtfbaikijnjafbaaGreatDoorSp
import Derived.Test.YtfbaikijnjafbaaGreatDoorAw
import Derived.OwnWalk
import Derived.RangeFuncBox
import Derived.Maps.AppendAt
import Derived.Laws.OwnMore
namespace Go.Proofs.YtfbaikijnjafbaaGreatDoor
set_option linter.unusedSimpArgs false
set_option linter.unusedVariables false
open Go.RowKit Go.Maps
set_option maxRecDepth 100000

/-- A row of ints that one owns, as a slice of ints. -/
theorem row_slice {W : World} {base : Nat} {v : Value} {l : List Int} (h : W.ownsRow base 3 1 v l.length (l.map I)) (hb : l.length * 8 ≤ 140737488355328) (hw : ∀ x ∈ l, wf x) :
    ∃ s : Sl Int, s.l = l ∧ v = s.v ∧ IntsL (inW W) W s := by
  rcases h.2 with ⟨rfl, h0⟩ | ⟨g, cap, cur, rfl, _, hgb, hcap, _⟩
  · obtain rfl : l = [] := List.eq_nil_of_length_eq_zero h0
    exact ⟨⟨none, 0, []⟩, rfl, rfl, ints_nil⟩
  · refine ⟨⟨some ⟨g, 0, none⟩, cap, l⟩, rfl, rfl, ⟨hcap, hb, .inr ⟨g, 0, rfl, (Array.getElem?_eq_some_iff.1 hgb).1, fun i hi j hj => ?_⟩⟩, hw⟩
    have hi' : i < l.length := hi
    obtain rfl : j = 0 := by simpa using hj
    rw [Nat.add_zero, Nat.mul_one, Nat.zero_add, h.cellAt i (by omega), List.getElem?_map, List.getElem?_eq_getElem hi']
    rfl
theorem row_on {W W' : World} {base sz n : Nat} {e : TypeId} {v : Value} {xs : List Value} (h : W.ownsRow base e sz v n xs) (hb : Below W.heap.size W W') : W'.ownsRow base e sz v n xs :=
  ⟨h.1, h.2.imp id fun ⟨g, cap, cur, a, b, c, d⟩ => ⟨g, cap, cur, a, b, (hb.block g (Array.getElem?_eq_some_iff.1 c).1).trans c, d⟩⟩
theorem map_snoc (l : List Int) (x : Int) : (l ++ [x]).map I = l.map I ++ [I x] := by simp
def hasPar (c : Int) (l : List Ty) : Bool := l.any fun t => isOfB t c
def childL (c : Int) : List Cls → Nat → List Int
  | [], _ => []
  | k :: r, i => if hasPar c k.pars.l = true then (i : Int) :: childL c r (i + 1) else childL c r (i + 1)
def childM (l : List Cls) (c : Int) : List Int := if inM c l.length = true then childL c l 0 else []
theorem childL_wf (c : Int) : ∀ (l : List Cls) (i : Nat), i + l.length ≤ 140737488355328 → ∀ x ∈ childL c l i, wf x
  | [], _, _, x, h => by simp [childL] at h
  | k :: r, i, hi, x, h => by
    rw [List.length_cons] at hi
    have ih := childL_wf c r (i + 1) (by omega) x
    rw [childL] at h
    split at h
    · rcases List.mem_cons.1 h with rfl | h
      · exact WalkArith.wf_i64 (by omega)
      · exact ih h
    · exact ih h
theorem info3c : (Tryz.prog.info? 3).map (fun i => (i.zero, i.size, i.bytes)) = some (some (.int .i64 0), 1, 8) := by kernel_rfl

set_option maxHeartbeats 6400000 in
theorem child15_any {ok : Nat → Prop} (P : Prg) (c : Int) (w : World) (hp : PrgL ok w P) (hok : ∀ k, ok k → k < w.heap.size) :
  Calls Tryz.prog 15 #[P.agg, I c] w fun e w' => ∃ s : Sl Int, Hid (s.l = childM P.cls.l c) ∧ IntsL (inW w') w' s ∧ e = .returned s.v ∧ Below w.heap.size w w' := by
  have hb1 : Below w.heap.size w (w.alloc (.cells (prgCells P) 28)) := (Below.refl _ _).alloc (Nat.le_refl _) _
  have hT := tl_made hp hok hb1
  rw [World.size_alloc] at hT
  have hb2 : Below w.heap.size w ((w.alloc (.cells (prgCells P) 28)).alloc (.cells (prgCells P) 78)) := hb1.alloc (by simp) _
  have hPb : ((w.alloc (.cells (prgCells P) 28)).alloc (.cells (prgCells P) 78)).heap[w.heap.size]? = some (.cells (prgCells P) 28) := by
    rw [Below.heap_alloc _ _ _ (by simp)]
    exact heap_alloc_new w _
  have hz2 : ((w.alloc (.cells (prgCells P) 28)).alloc (.cells (prgCells P) 78)).heap.size = w.heap.size + 2 := by simp
  have hbig : P.cls.l.length ≤ 586406201480 := by have h1 := hp.cls.1; have h2 := hp.cls.2.1; omega
  have HT := Lib.hid hT
  have HPB := Lib.hid hPb
  have HB := Lib.hid hb2
  have HZ := Lib.hid hz2
  have HBIG := Lib.hid hbig
  clear hT hPb hb2 hz2 hb1 hp hok hbig
  rw [prg_agg]
  generalize hdm : childM P.cls.l c = res
  have HDM := Lib.hid hdm
  clear hdm
  go_enter Tryz.func15, Tryz.ntmps15
  go_upto_region 2 with fail
  change Code.wp _ _ _ _ ((w.alloc (.cells (prgCells P) 28)).alloc (.cells (prgCells P) 78))
  generalize ((w.alloc (.cells (prgCells P) 28)).alloc (.cells (prgCells P) 78)) = w2 at *
  generalize hN : w.heap.size = N at *
  have HZ1 : Hid (sizeM P 1 = P.cls.l.length) := Lib.hid rfl
  cases e0 : inM c P.cls.l.length with
  | false =>
    obtain rfl : [] = res := by have := HDM.out; unfold childM at this; rw [e0] at this; exact this
    go_wp2_with (first | (go_at_call 41; refine (has_any P (N + 1) _ _ _ HT.out).mono ?_; rintro e w9 ⟨rfl, rfl⟩; dsimp only; rw [HZ1.out, e0]))
    go_ret
    exact ⟨⟨none, 0, []⟩, Lib.hid rfl, ints_nil, rfl, by rw [hN]; exact HB.out⟩
  | true =>
    have HRES : Hid (childL c P.cls.l 0 = res) := Lib.hid (by have := HDM.out; unfold childM at this; rw [if_pos e0] at this; exact this)
    have p0 : w2.cell? ⟨N, 0, none⟩ = some (.slice P.cls.a P.cls.l.length P.cls.cap) := cell_of_row w2 N 0 _ _ _ HPB.out
    obtain ⟨i0, hi0, hz0, hz1, hzb⟩ := info_parts info3c
    have HTW := Lib.hid (show ∀ W, Below (N + 2) w2 W → TL W (N + 1) P from fun W hW => HT.out.move fun q hq => hW.block q (by omega))
    have HBW := Lib.hid (show ∀ W, Below (N + 2) w2 W → Below N w W from fun W hW => HB.out.trans (hW.mono (by omega)))
    have HWF : Hid (∀ x ∈ res, wf x) := Lib.hid (fun x hx => childL_wf c P.cls.l 0 (by have := HBIG.out; omega) x (by rw [HRES.out]; exact hx))
    go_wp2_with (first | (go_at_call 41; refine (has_any P (N + 1) _ _ _ HT.out).mono ?_; rintro e w9 ⟨rfl, rfl⟩; dsimp only; rw [HZ1.out, e0]))
    clear e0 p0 HDM HB HPB
    go_loopg [6, 21] (P.cls.l.length + 1) (fun n v6 v1 wr => ∃ i : Nat, ∃ acc : List Int, i ≤ P.cls.l.length ∧ v1 = .int .i64 i ∧ Hid (n = P.cls.l.length + 1 - i) ∧ Hid (acc ++ childL c (P.cls.l.drop i) i = res) ∧ Hid (acc.length ≤ i) ∧ Hid (wr.ownsRow (N + 2) 3 1 v6 acc.length (acc.map I)) ∧ Hid (Below (N + 2) w2 wr))
    case atStart => exact ⟨0, [], by omega, rfl, rfl, HRES.out, Nat.zero_le _, World.ownsRow_nil _ _ _ _, Below.refl _ _⟩
    case round =>
      obtain ⟨i, acc, hi, rfl, HN, HD, HQ, HR, HW⟩ := hrel
      have hbg := HBIG.out
      have hwz := HW.out.size
      have hz2 := HZ.out
      by_cases hlt : i < P.cls.l.length
      · have d2 : ((i : Int) < (P.cls.l.length : Int)) := by omega
        obtain ⟨b, o, ha, hokb, hcs⟩ := sl_at (HTW.out _ HW.out).prg.cls (by omega)
        obtain ⟨t0, t1, t2, t3, t4, t5, t6, t7, t8, t9, t10, t11, t12⟩ := cls_cells0 (hcs i hlt)
        have HPA := Lib.hid ((HTW.out _ HW.out).prg.clsL _ (List.getElem_mem hlt)).2.2.2.1
        have HD2 := HD.out
        rw [List.drop_eq_getElem_cons hlt, childL] at HD2
        have HD2 := Lib.hid HD2
        have HA := Lib.hid ha
        clear hcs hokb HD
        generalize P.cls.l[i] = k at *
        obtain ⟨nm, kind, flags, owner, ⟨ta, tc, tl⟩, ⟨ra, rc, rl⟩, ⟨pa, pc, pl⟩, ⟨fa, fc, fl⟩, ⟨ma, mc, ml⟩, ⟨ya, yc, yl⟩, ⟨sa, sc, sl⟩, ⟨na, nc, nl⟩, p⟩ := k
        unfold Sl.v at t4 t5 t6 t7 t8 t9 t10 t11
        dsimp only at t0 t1 t2 t3 t4 t5 t6 t7 t8 t9 t10 t11 t12 HD2 HPA
        have hlr : rl.length ≤ 140737488355328 := by have h1 := HPA.out.1.1; have h2 := HPA.out.1.2.1; dsimp only at h1 h2; omega
        have HLR := Lib.hid hlr
        have hX : ∀ j, (wr.alloc (.cells #[.string nm, I kind, I flags, I owner, .slice ta tl.length tc, .slice ra rl.length rc, .slice pa pl.length pc, .slice fa fl.length fc, .slice ma ml.length mc, .slice ya yl.length yc, .slice sa sl.length sc, .slice na nl.length nc, I p] 54)).cell? ⟨wr.heap.size, j, none⟩ = #[.string nm, I kind, I flags, I owner, .slice ta tl.length tc, .slice ra rl.length rc, .slice pa pl.length pc, .slice fa fl.length fc, .slice ma ml.length mc, .slice ya yl.length yc, .slice sa sl.length sc, .slice na nl.length nc, I p][j]? := fun j => World.cell?_alloc_new wr #[.string nm, I kind, I flags, I owner, .slice ta tl.length tc, .slice ra rl.length rc, .slice pa pl.length pc, .slice fa fl.length fc, .slice ma ml.length mc, .slice ya yl.length yc, .slice sa sl.length sc, .slice na nl.length nc, I p] 54 j
        have hWk : Below (N + 2) w2 (wr.alloc (.cells #[.string nm, I kind, I flags, I owner, .slice ta tl.length tc, .slice ra rl.length rc, .slice pa pl.length pc, .slice fa fl.length fc, .slice ma ml.length mc, .slice ya yl.length yc, .slice sa sl.length sc, .slice na nl.length nc, I p] 54)) := HW.out.alloc (by omega) _
        have hRk := HR.out.alloc (.cells #[.string nm, I kind, I flags, I owner, .slice ta tl.length tc, .slice ra rl.length rc, .slice pa pl.length pc, .slice fa fl.length fc, .slice ma ml.length mc, .slice ya yl.length yc, .slice sa sl.length sc, .slice na nl.length nc, I p] 54)
        have hPk : TysL (fun q => q < N + 1) (wr.alloc (.cells #[.string nm, I kind, I flags, I owner, .slice ta tl.length tc, .slice ra rl.length rc, .slice pa pl.length pc, .slice fa fl.length fc, .slice ma ml.length mc, .slice ya yl.length yc, .slice sa sl.length sc, .slice na nl.length nc, I p] 54)) ⟨ra, rc, rl⟩ := HPA.out.same fun q hq => Below.heap_alloc _ _ _ (by omega)
        go_upto_region 8 with fail
        change Code.wp _ _ _ _ (wr.alloc (.cells #[.string nm, I kind, I flags, I owner, .slice ta tl.length tc, .slice ra rl.length rc, .slice pa pl.length pc, .slice fa fl.length fc, .slice ma ml.length mc, .slice ya yl.length yc, .slice sa sl.length sc, .slice na nl.length nc, I p] 54))
        generalize (wr.alloc (.cells #[.string nm, I kind, I flags, I owner, .slice ta tl.length tc, .slice ra rl.length rc, .slice pa pl.length pc, .slice fa fl.length fc, .slice ma ml.length mc, .slice ya yl.length yc, .slice sa sl.length sc, .slice na nl.length nc, I p] 54)) = wk at *
        have x5 : wk.cell? ⟨wr.heap.size, 5, none⟩ = some (.slice ra rl.length rc) := hX 5
        have HWK := Lib.hid hWk
        have HRK := Lib.hid hRk
        have HPK := Lib.hid hPk
        generalize hbr : hasPar c rl = br at *
        have HBR := Lib.hid hbr
        clear hX t0 t1 t2 t3 t4 t5 t6 t7 t8 t9 t10 t11 t12 hWk hRk hPk hbr ha hlr hwz
        go_wp2_with fail
        clear x5
        go_loopg [6, 29] (rl.length + 1) (fun n v6 v wx => ∃ j : Nat, j ≤ rl.length ∧ v = .int .i64 j ∧ Hid (n = rl.length + 1 - j) ∧ Hid (hasPar c (rl.drop j) = br) ∧ Hid (wx.ownsRow (N + 2) 3 1 v6 acc.length (acc.map I)) ∧ Hid (Below wk.heap.size wk wx))
        case atStart => exact ⟨0, by omega, rfl, rfl, HBR.out, HRK.out, Below.refl _ _⟩
        case round =>
          obtain ⟨j, hj, rfl, HNJ, HDJ, HRX, HWX⟩ := hrel
          have hlr := HLR.out
          have hxz := HWX.out.size
          have hwkz := HWK.out.size
          by_cases hjt : j < rl.length
          · have d3 : ((j : Int) < (rl.length : Int)) := by omega
            obtain ⟨b2, o2, ha2, hok2, hcs2⟩ := sl_at HPK.out.1 (by show 0 < rl.length; omega)
            dsimp only at ha2
            subst ha2
            obtain ⟨y0, y1, y2, y3, y4⟩ := tys_cells ((hcs2 j hjt).same (HWX.out.block b2 (by omega)))
            have HD3 := HDJ.out
            rw [List.drop_eq_getElem_cons hjt] at HD3
            have HD3 : Hid ((isOfB rl[j] c || hasPar c (rl.drop (j + 1))) = br) := Lib.hid HD3
            have hb2lt : b2 < wr.heap.size := by omega
            have hb2ne : b2 ≠ wr.heap.size := by omega
            clear hcs2 hok2 HDJ
            dsimp only at y0 y1 y2 y3 y4
            generalize hx : rl[j] = x at *
            obtain ⟨xk, xs, xn, xm, ⟨xa, xc, xl⟩⟩ := x
            dsimp only [Ty.k, Ty.s, Ty.nm, Ty.n, Ty.args, Sl.v] at y0 y1 y2 y3 y4
            have hY : ∀ j, (wr.alloc (.cells #[I xk, I xs, .string xn, I xm, .slice xa xl.length xc] 60)).cell? ⟨wr.heap.size, j, none⟩ = #[I xk, I xs, .string xn, I xm, .slice xa xl.length xc][j]? := fun j => World.cell?_alloc_new wr #[I xk, I xs, .string xn, I xm, .slice xa xl.length xc] 60 j
            have hWy : Below wk.heap.size wk (wr.alloc (.cells #[I xk, I xs, .string xn, I xm, .slice xa xl.length xc] 60)) := HWX.out.alloc hxz _
            have hyz : (wr.alloc (.cells #[I xk, I xs, .string xn, I xm, .slice xa xl.length xc] 60)).heap.size = wr.heap.size + 1 := by simp
            have hRy := HRX.out.alloc (.cells #[I xk, I xs, .string xn, I xm, .slice xa xl.length xc] 60)
            go_upto_region 11 with fail
            change Code.wp _ _ _ _ (wr.alloc (.cells #[I xk, I xs, .string xn, I xm, .slice xa xl.length xc] 60))
            generalize (wr.alloc (.cells #[I xk, I xs, .string xn, I xm, .slice xa xl.length xc] 60)) = wy at *
            have z0 : wy.cell? ⟨wr.heap.size, 0, none⟩ = some (I xk) := hY 0
            have z1 : wy.cell? ⟨wr.heap.size, 1, none⟩ = some (I xs) := hY 1
            have z2 : wy.cell? ⟨wr.heap.size, 2, none⟩ = some (.string xn) := hY 2
            have z3 : wy.cell? ⟨wr.heap.size, 3, none⟩ = some (I xm) := hY 3
            have z4 : wy.cell? ⟨wr.heap.size, 4, none⟩ = some (.slice xa xl.length xc) := hY 4
            have HWY := Lib.hid hWy
            have HRY := Lib.hid hRy
            have HYZ := Lib.hid hyz
            have HIS : Hid (Calls Tryz.prog 42 #[.agg #[I xk, I xs, .string xn, I xm, .slice xa xl.length xc], I c] wy (Bof wy (.bool (isOfB (Ty.mk xk xs xn xm ⟨xa, xc, xl⟩) c)))) := Lib.hid (isOf_any (Ty.mk xk xs xn xm ⟨xa, xc, xl⟩) c wy)
            clear hY y0 y1 y2 y3 y4 hWy hyz hx hRy HRX
            cases e1 : isOfB (Ty.mk xk xs xn xm ⟨xa, xc, xl⟩) c with
            | false =>
              have HD4 : Hid (hasPar c (rl.drop (j + 1)) = br) := Lib.hid (by have := HD3.out; rw [e1, Bool.false_or] at this; exact this)
              go_wp2_with (first | (go_at_call 42; refine HIS.out.mono ?_; rintro e w5 ⟨rfl, hb5⟩; rw [e1]; have HB5 := Lib.hid hb5; clear hb5))
              go_roundg (rl.length + 1 - (j + 1))
              case measure => have := HNJ.out; omega
              case rel => exact ⟨j + 1, by omega, by first | go_num | (rw [IntWalk.wrap64_in _ (by omega)]; go_num), rfl, HD4.out, row_on HRY.out HB5.out, HWY.out.trans (HB5.out.mono (by have := HWY.out.size; omega))⟩
            | true =>
              obtain rfl : true = br := by have := HD3.out; rw [e1, Bool.true_or] at this; exact this
              have HD4 := HD2.out
              rw [if_pos rfl] at HD4
              have HD4 : Hid ((acc ++ [(i : Int)]) ++ childL c (P.cls.l.drop (i + 1)) (i + 1) = res) := Lib.hid (by rw [List.append_assoc]; exact HD4)
              have hacc := HQ.out
              have hz2 := HZ.out
              have hyw := HWY.out.size
              go_wp2_with (first
                | (go_at_call 42; refine HIS.out.mono ?_; rintro e w5 ⟨rfl, hb5⟩; rw [e1]; have hw5z := hb5.size; have HR5 := Lib.hid (row_on HRY.out hb5); have HW5 : Hid (Below (N + 2) w2 w5) := Lib.hid (HWK.out.trans ((HWY.out.trans (hb5.mono hyw)).mono (by omega))); have HB5 := Lib.hid hb5; clear hb5)
                | (at_builtin; refine wpList_append_own _ rfl _ _ 44 rfl (N + 2) 3 i0 (.int .i64 0) 1 8 Tryz.underlying44 hi0 hz0 hz1 hzb rfl (by decide) _ _ _ rfl (HR5.out.alloc _) ⟨w5.heap.size, 0, none⟩ 1 1 [I i] rfl rfl (cell_one_new _ _ _) (by intro u hu; simp at hu; subst hu; rfl) (by unfold maxLen; omega) (by omega) (by simp; omega) ?_; intro v' w4 hown' hgrow _; have HO4 := Lib.hid hown'; have HW4 := Lib.hid ((HW5.out.alloc (by omega) _).grown hgrow (by simp; omega) (fun q e => (HR5.out.lt q e).1)); clear hown' hgrow))
              go_roundg (P.cls.l.length + 1 - (i + 1))
              case measure => have := HN.out; omega
              case rel => exact ⟨i + 1, acc ++ [(i : Int)], by omega, by first | go_num | (rw [IntWalk.wrap64_in _ (by omega)]; go_num), rfl, HD4.out, (Lib.hid (by rw [List.length_append]; have := HQ.out; simp only [List.length_cons, List.length_nil]; omega)), (Lib.hid (by rw [List.length_append, map_snoc]; exact HO4.out)), HW4.out⟩
          · obtain rfl : j = rl.length := by omega
            obtain rfl : false = br := by have := HDJ.out; rw [List.drop_length] at this; exact this
            have HD4 := HD2.out
            rw [if_neg (by simp)] at HD4
            have HD4 := Lib.hid HD4
            go_wp2_with fail
            go_roundg (P.cls.l.length + 1 - (i + 1))
            case measure => have := HN.out; omega
            case rel => exact ⟨i + 1, acc, by omega, by first | go_num | (rw [IntWalk.wrap64_in _ (by omega)]; go_num), rfl, HD4.out, (Lib.hid (by have := HQ.out; omega)), HRX.out, HWK.out.trans (HWX.out.mono (by omega))⟩
      · obtain rfl : i = P.cls.l.length := by omega
        have HD3 := HD.out
        rw [List.drop_length, childL, List.append_nil] at HD3
        subst HD3
        have hacc := HQ.out
        obtain ⟨s, hsl, rfl, hsr⟩ := row_slice HR.out (by omega) HWF.out
        have HS := Lib.hid hsr
        have HSL := Lib.hid hsl
        clear hsr hsl
        go_wp2_with fail
        go_ret
        exact ⟨s, HSL, HS.out, rfl, by rw [hN]; exact HBW.out _ HW.out⟩
end Go.Proofs.YtfbaikijnjafbaaGreatDoor
