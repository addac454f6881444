/- Declared of the reference. Conditions: what the theorem names. -/
import Derived.Test.YtfbaikijnjafbaaGreatDoorDa
namespace Go.Proofs.YtfbaikijnjafbaaGreatDoor
set_option linter.unusedSimpArgs false
set_option linter.unusedVariables false
open Go.RowKit Go.Maps
set_option maxRecDepth 100000

theorem row_not54 {W : World} {base k n : Nat} {v : Value} {xs : List Value} {cs : Array Value} (h : W.ownsRow base 40 2 v n xs) (hm : W.heap[k]? = some (.cells cs 54)) : some k ≠ v.ownBlock := by
  rcases h.2 with ⟨rfl, _⟩ | ⟨g, cap, cur, rfl, _, hgb, _⟩
  · simp [Value.ownBlock]
  · intro e
    have : k = g := by simpa [Value.ownBlock] using e
    subst this
    rw [hgb] at hm
    simp at hm
set_option maxHeartbeats 6400000 in
theorem decl13_any {ok : Nat → Prop} (P : Prg) (c : Int) (name : ByteArray) (w : World) (hp : PrgL ok w P) (hok : ∀ k, ok k → k < w.heap.size) (hsh : ∀ k ∈ P.cls.l, Short k) :
  Calls Tryz.prog 13 #[P.agg, I c, .string name] w fun e w' => ∃ s : Sl (Int × Int), Hid (s.l = declM P c name) ∧ RefsL (inW w') w' s ∧ e = .returned s.v ∧ Below w.heap.size w w' := by
  have hb1 : Below w.heap.size w (w.alloc (.cells (prgCells P) 28)) := (Below.refl _ _).alloc (Nat.le_refl _) _
  have hb2 : Below w.heap.size w ((w.alloc (.cells (prgCells P) 28)).alloc (.cells #[] 40)) := hb1.alloc (by simp) _
  have hPb : ((w.alloc (.cells (prgCells P) 28)).alloc (.cells #[] 40)).heap[w.heap.size]? = some (.cells (prgCells P) 28) := by
    rw [Below.heap_alloc _ _ _ (by simp)]
    exact heap_alloc_new w _
  have hz2 : ((w.alloc (.cells (prgCells P) 28)).alloc (.cells #[] 40)).heap.size = w.heap.size + 2 := by simp
  have hPL : PrgL (fun k => k < w.heap.size) ((w.alloc (.cells (prgCells P) 28)).alloc (.cells #[] 40)) P := (hp.same fun q hq => hb2.block q (hok q hq)).imp hok
  have hrow : ((w.alloc (.cells (prgCells P) 28)).alloc (.cells #[] 40)).ownsRow (w.heap.size + 1) 40 2 (.slice (some ⟨w.heap.size + 1, 0, none⟩) 0 0) 0 [] := by
    have := World.ownsRow_made (base := w.heap.size + 1) (e := 40) (size := 2) (w.alloc (.cells (prgCells P) 28)) #[] 0 (by simp) (by unfold maxLen; omega) rfl
    rwa [World.size_alloc] at this
  have HPB := Lib.hid hPb
  have HB := Lib.hid hb2
  have HZ := Lib.hid hz2
  have HSH := Lib.hid hsh
  have HPL := Lib.hid hPL
  have HROW := Lib.hid hrow
  clear hPb hb2 hz2 hb1 hp hok hsh hPL hrow
  rw [prg_agg]
  generalize hdm : declM P c name = res
  have HDM := Lib.hid hdm
  clear hdm
  go_enter Tryz.func13, Tryz.ntmps13
  go_upto_region 2 with fail
  change Code.wp _ _ _ _ ((w.alloc (.cells (prgCells P) 28)).alloc (.cells #[] 40))
  generalize ((w.alloc (.cells (prgCells P) 28)).alloc (.cells #[] 40)) = w2 at *
  generalize hN : w.heap.size = N at *
  have pcx : w2.cell? ⟨N, 0, none⟩ = some (.slice P.cls.a P.cls.l.length P.cls.cap) := cell_of_row w2 N 0 _ _ _ HPB.out
  cases e0 : inM c P.cls.l.length with
  | false =>
    obtain rfl : [] = res := by have := HDM.out; unfold declM at this; rw [e0] at this; exact this
    obtain ⟨s, hsl, hsv, hsr⟩ := row_refs (l := []) HROW.out (by simp)
    have HSV := Lib.hid hsv
    have HSL := Lib.hid hsl
    have HSR := Lib.hid hsr
    clear hsv hsl hsr
    go_wp2_with (first | (go_at_call 40; refine (in54_any _ _ _).mono ?_; rintro e w9 ⟨rfl, rfl⟩; dsimp only; rw [e0]))
    go_ret
    exact ⟨s, HSL, HSR.out, by rw [← HSV.out]; rfl, by rw [hN]; exact HB.out⟩
  | true =>
    obtain ⟨x0, rfl, hxn, hx0⟩ := inM_at e0
    have hii : ((x0 : Int) < (P.cls.l.length : Int)) := by omega
    obtain ⟨b, o, ha, hokb, hcs⟩ := sl_at HPL.out.cls (by omega)
    rw [ha] at pcx
    obtain ⟨t0, t1, t2, t3, t4, t5, t6, t7, t8, t9, t10, t11, t12⟩ := cls_cells0 (hcs x0 hx0)
    have HCL := Lib.hid (HPL.out.clsL _ (List.getElem_mem hx0))
    have HSK := Lib.hid (HSH.out _ (List.getElem_mem hx0))
    have HRES := Lib.hid (show declC P name P.cls.l[x0] = res from (declM_in P x0 name hx0).symm.trans HDM.out)
    have hz2 := HZ.out
    clear hcs hokb HDM ha
    generalize P.cls.l[x0] = k at *
    obtain ⟨nm, kind, flags, owner, ⟨ta, tc, tl⟩, ⟨ra, rc, rl⟩, ⟨pa, pc, pl⟩, ⟨fa, fc, fl⟩, ⟨ma, mc, ml⟩, ⟨ya, yc, yl⟩, ⟨sa, sc, sl⟩, ⟨na, nc, nl⟩, p⟩ := k
    unfold Sl.v at t4 t5 t6 t7 t8 t9 t10 t11
    unfold declC at HRES
    unfold Short at HSK
    dsimp only at t0 t1 t2 t3 t4 t5 t6 t7 t8 t9 t10 t11 t12 HRES HSK
    go_upto_region 5 with (first | (go_at_call 40; refine (in54_any _ _ _).mono ?_; rintro e w9 ⟨rfl, rfl⟩; dsimp only; rw [e0]))
    change Code.wp _ _ _ _ (w2.alloc (.cells #[.string nm, I kind, I flags, I owner, .slice ta tl.length tc, .slice ra rl.length rc, .slice pa pl.length pc, .slice fa fl.length fc, .slice ma ml.length mc, .slice ya yl.length yc, .slice sa sl.length sc, .slice na nl.length nc, I p] 54))
    have hX : (w2.alloc (.cells #[.string nm, I kind, I flags, I owner, .slice ta tl.length tc, .slice ra rl.length rc, .slice pa pl.length pc, .slice fa fl.length fc, .slice ma ml.length mc, .slice ya yl.length yc, .slice sa sl.length sc, .slice na nl.length nc, I p] 54)).heap[N + 2]? = some (.cells #[.string nm, I kind, I flags, I owner, .slice ta tl.length tc, .slice ra rl.length rc, .slice pa pl.length pc, .slice fa fl.length fc, .slice ma ml.length mc, .slice ya yl.length yc, .slice sa sl.length sc, .slice na nl.length nc, I p] 54) := by have := heap_alloc_new w2 (.cells #[.string nm, I kind, I flags, I owner, .slice ta tl.length tc, .slice ra rl.length rc, .slice pa pl.length pc, .slice fa fl.length fc, .slice ma ml.length mc, .slice ya yl.length yc, .slice sa sl.length sc, .slice na nl.length nc, I p] 54); rwa [hz2] at this
    have hb3 : Below (N + 2) w2 (w2.alloc (.cells #[.string nm, I kind, I flags, I owner, .slice ta tl.length tc, .slice ra rl.length rc, .slice pa pl.length pc, .slice fa fl.length fc, .slice ma ml.length mc, .slice ya yl.length yc, .slice sa sl.length sc, .slice na nl.length nc, I p] 54)) := (Below.refl _ _).alloc (by omega) _
    have hz3 : (w2.alloc (.cells #[.string nm, I kind, I flags, I owner, .slice ta tl.length tc, .slice ra rl.length rc, .slice pa pl.length pc, .slice fa fl.length fc, .slice ma ml.length mc, .slice ya yl.length yc, .slice sa sl.length sc, .slice na nl.length nc, I p] 54)).heap.size = N + 3 := by rw [World.size_alloc, hz2]
    have HR0 := Lib.hid (HROW.out.alloc (.cells #[.string nm, I kind, I flags, I owner, .slice ta tl.length tc, .slice ra rl.length rc, .slice pa pl.length pc, .slice fa fl.length fc, .slice ma ml.length mc, .slice ya yl.length yc, .slice sa sl.length sc, .slice na nl.length nc, I p] 54))
    generalize (w2.alloc (.cells #[.string nm, I kind, I flags, I owner, .slice ta tl.length tc, .slice ra rl.length rc, .slice pa pl.length pc, .slice fa fl.length fc, .slice ma ml.length mc, .slice ya yl.length yc, .slice sa sl.length sc, .slice na nl.length nc, I p] 54)) = w3 at *
    have HX := Lib.hid hX
    have HPW := Lib.hid (show ∀ W, Below (N + 1) w3 W → ∀ j, W.cell? ⟨N, j, none⟩ = (prgCells P)[j]? from fun W hW j => (hW.cell (by show N < N + 1; omega)).trans ((hb3.cell (by show N < N + 2; omega)).trans (cell_of_row w2 N j _ _ _ HPB.out)))
    have HTW := Lib.hid (show ∀ W, Below (N + 1) w3 W → PrgL (fun k => k < N) W P from fun W hW => HPL.out.same fun q hq => (hW.block q (by omega)).trans (hb3.block q (by omega)))
    have HBW := Lib.hid (show ∀ W, Below (N + 1) w3 W → Below N w W from fun W hW => HB.out.trans ((hb3.mono (by omega)).trans (hW.mono (by omega))))
    have HI3 := Lib.hid (show IntsL (fun q => q < N) w3 ⟨fa, fc, fl⟩ from HCL.out.2.2.1.2.2.1.same fun q hq => hb3.block q (by omega))
    have HI4 := Lib.hid (show IntsL (fun q => q < N) w3 ⟨ma, mc, ml⟩ from HCL.out.2.2.1.2.2.2.1.same fun q hq => hb3.block q (by omega))
    have HI5 := Lib.hid (show IntsL (fun q => q < N) w3 ⟨ya, yc, yl⟩ from HCL.out.2.2.1.2.2.2.2.same fun q hq => hb3.block q (by omega))
    have HZ3 := Lib.hid hz3
    obtain ⟨i0, hi0, hz0, hz1, hzb⟩ := info_parts info40
    clear t0 t1 t2 t3 t4 t5 t6 t7 t8 t9 t10 t11 t12 pcx hX hb3 hz3 hz2 hii HPL HPB HB HZ HCL HSH e0 HROW
    clear hxn hx0
    go_wp2_with fail
    go_loopg [7, 9] (fl.length + 1) (fun n v8 v1 wr => ∃ i : Nat, ∃ acc : List (Int × Int), i ≤ fl.length ∧ v1 = .int .i64 i ∧ Hid (n = fl.length + 1 - i) ∧ Hid (acc ++ (declL Fld.nm P.fld.l 1 name (fl.drop i) ++ (declL Mth.nm P.mth.l 0 name ml ++ (declL Tym.nm P.tym.l 2 name yl))) = res) ∧ Hid (acc.length ≤ i) ∧ Hid (wr.ownsRow (N + 1) 40 2 v8 acc.length (acc.flatMap refC)) ∧ Hid (Below (N + 1) w3 wr) ∧ Hid (wr.heap[N + 2]? = some (.cells #[.string nm, I kind, I flags, I owner, .slice ta tl.length tc, .slice ra rl.length rc, .slice pa pl.length pc, .slice fa fl.length fc, .slice ma ml.length mc, .slice ya yl.length yc, .slice sa sl.length sc, .slice na nl.length nc, I p] 54)))
    case atStart => exact ⟨0, [], by omega, rfl, rfl, HRES.out, Nat.zero_le _, HR0.out, Below.refl _ _, HX.out⟩
    case round =>
      obtain ⟨i, acc, hi, rfl, HN, HD, HQ, HR, HW, HK⟩ := hrel
      have hsk := HSK.out
      have k7 : wr.cell? ⟨N + 2, 7, none⟩ = some (.slice fa fl.length fc) := cell_of_row wr (N + 2) 7 _ _ _ HK.out
      by_cases hlt : i < fl.length
      · have d2 : ((i : Int) < (fl.length : Int)) := by omega
        obtain ⟨bi, oi, hai, hoki, hci⟩ := sl_at HI3.out.1 (by show 0 < fl.length; omega)
        dsimp only at hai
        subst hai
        have ht : wr.cell? ⟨bi, oi + i, none⟩ = some (I fl[i]) := by have := ((hci i hlt).same (HW.out.block bi (by omega))) 0 (by simp); simpa using this
        have HD2 := HD.out
        rw [List.drop_eq_getElem_cons hlt] at HD2
        have HD2 := Lib.hid HD2
        clear hci hoki HD
        generalize fl[i] = y at *
        have pf : wr.cell? ⟨N, 2, none⟩ = some (.slice P.fld.a P.fld.l.length P.fld.cap) := HPW.out _ HW.out 2
        cases e1 : inM y P.fld.l.length with
        | false =>
          have HD3 := HD2.out
          rw [declL_out _ _ _ _ _ _ e1] at HD3
          have HD3 := Lib.hid HD3
          go_wp2_with (first | (go_at_call 40; refine (in54_any _ _ _).mono ?_; rintro e w9 ⟨rfl, rfl⟩; dsimp only; rw [e1]))
          go_roundg (fl.length + 1 - (i + 1))
          case measure => have := HN.out; omega
          case rel => exact ⟨i + 1, acc, by omega, by first | go_num | (rw [IntWalk.wrap64_in _ (by omega)]; go_num), rfl, HD3.out, (Lib.hid (by have := HQ.out; omega)), HR.out, HW.out, HK.out⟩
        | true =>
          obtain ⟨y0, rfl, hyn, hy0⟩ := inM_at e1
          have d4 : ((y0 : Int) < (P.fld.l.length : Int)) := by omega
          obtain ⟨bf, of, haf, hokf, hcf⟩ := sl_at (HTW.out _ HW.out).fld (by omega)
          have tn : wr.cell? ⟨bf, of + y0 * 9, none⟩ = some (.string P.fld.l[y0].nm) := hcf y0 hy0 0 (by simp [Fld.cells])
          rw [haf] at pf
          cases e2 : (P.fld.l[y0].nm.toList == name.toList) with
          | false =>
            have HD3 := HD2.out
            rw [declL_in _ _ _ _ y0 _ hy0 _ e2, if_neg (by simp)] at HD3
            have HD3 := Lib.hid HD3
            clear hcf hokf haf
            generalize P.fld.l[y0].nm = nmy at *
            go_wp2_with (first | (go_at_call 40; refine (in54_any _ _ _).mono ?_; rintro e w9 ⟨rfl, rfl⟩; dsimp only; rw [e1]))
            go_roundg (fl.length + 1 - (i + 1))
            case measure => have := HN.out; omega
            case rel => exact ⟨i + 1, acc, by omega, by first | go_num | (rw [IntWalk.wrap64_in _ (by omega)]; go_num), rfl, HD3.out, (Lib.hid (by have := HQ.out; omega)), HR.out, HW.out, HK.out⟩
          | true =>
            have HD3 := HD2.out
            rw [declL_in _ _ _ _ y0 _ hy0 _ e2, if_pos rfl] at HD3
            have HD3 := Lib.hid (show (acc ++ [(1, (y0 : Int))]) ++ _ = res by rw [List.append_assoc]; exact HD3)
            clear hcf hokf haf HD2
            generalize P.fld.l[y0].nm = nmy at *
            have hacc := HQ.out
            have hwz := HW.out.size
            have hz3 := HZ3.out
            go_wp2_with (first
              | (go_at_call 40; refine (in54_any _ _ _).mono ?_; rintro e w9 ⟨rfl, rfl⟩; dsimp only; rw [e1])
              | (at_builtin; refine wpList_append_own _ rfl _ _ 38 rfl (N + 1) 40 i0 (.agg #[.int .i64 0, .int .i64 0]) 2 16 Tryz.underlying38 hi0 hz0 hz1 hzb rfl (by decide) _ _ _ rfl (HR.out.alloc _) ⟨wr.heap.size, 0, none⟩ 1 1 [I 1, I y0] rfl rfl (cell_two_new _ _ _ _) (by intro u hu; simp at hu; rcases hu with rfl | rfl <;> rfl) (by unfold maxLen; omega) (by omega) (by simp; omega) ?_; intro v' w4 hown' hgrow _; have HO4 := Lib.hid hown'; have HK4 := Lib.hid ((hgrow.block (N + 2) (by simp; omega) (row_not54 HR.out HK.out)).trans ((Below.heap_alloc _ _ _ (by omega)).trans HK.out)); have HW4 := Lib.hid ((HW.out.alloc (by omega) _).grown hgrow (by simp; omega) (fun q e => (HR.out.lt q e).1)); clear hown' hgrow))
            go_roundg (fl.length + 1 - (i + 1))
            case measure => have := HN.out; omega
            case rel => exact ⟨i + 1, acc ++ [(1, (y0 : Int))], by omega, by first | go_num | (rw [IntWalk.wrap64_in _ (by omega)]; go_num), rfl, HD3.out, (Lib.hid (by rw [List.length_append]; have := HQ.out; simp only [List.length_cons, List.length_nil]; omega)), (Lib.hid (by rw [List.length_append, flat_snoc]; exact HO4.out)), HW4.out, HK4.out⟩
      · obtain rfl : i = fl.length := by omega
        have HD3 := HD.out
        rw [List.drop_length, declL, List.nil_append] at HD3
        have HD4 := Lib.hid HD3
        clear HD HD3
        have HD := HD4
        clear HD4 HN hlt hi
        go_wp2_with fail
        go_loopg [7, 11] (ml.length + 1) (fun n v8 v1 wr => ∃ i : Nat, ∃ acc : List (Int × Int), i ≤ ml.length ∧ v1 = .int .i64 i ∧ Hid (n = ml.length + 1 - i) ∧ Hid (acc ++ (declL Mth.nm P.mth.l 0 name (ml.drop i) ++ (declL Tym.nm P.tym.l 2 name yl)) = res) ∧ Hid (acc.length ≤ fl.length + i) ∧ Hid (wr.ownsRow (N + 1) 40 2 v8 acc.length (acc.flatMap refC)) ∧ Hid (Below (N + 1) w3 wr) ∧ Hid (wr.heap[N + 2]? = some (.cells #[.string nm, I kind, I flags, I owner, .slice ta tl.length tc, .slice ra rl.length rc, .slice pa pl.length pc, .slice fa fl.length fc, .slice ma ml.length mc, .slice ya yl.length yc, .slice sa sl.length sc, .slice na nl.length nc, I p] 54)))
        case atStart => exact ⟨0, acc, by omega, rfl, rfl, HD.out, HQ.out, HR.out, HW.out, HK.out⟩
        case round =>
          clear HD HQ HR HW HK acc
          obtain ⟨i, acc, hi, rfl, HN, HD, HQ, HR, HW, HK⟩ := hrel
          have hsk := HSK.out
          have k8 : wr.cell? ⟨N + 2, 8, none⟩ = some (.slice ma ml.length mc) := cell_of_row wr (N + 2) 8 _ _ _ HK.out
          by_cases hlt : i < ml.length
          · have d2 : ((i : Int) < (ml.length : Int)) := by omega
            obtain ⟨bi, oi, hai, hoki, hci⟩ := sl_at HI4.out.1 (by show 0 < ml.length; omega)
            dsimp only at hai
            subst hai
            have ht : wr.cell? ⟨bi, oi + i, none⟩ = some (I ml[i]) := by have := ((hci i hlt).same (HW.out.block bi (by omega))) 0 (by simp); simpa using this
            have HD2 := HD.out
            rw [List.drop_eq_getElem_cons hlt] at HD2
            have HD2 := Lib.hid HD2
            clear hci hoki HD
            generalize ml[i] = y at *
            have pf : wr.cell? ⟨N, 1, none⟩ = some (.slice P.mth.a P.mth.l.length P.mth.cap) := HPW.out _ HW.out 1
            cases e1 : inM y P.mth.l.length with
            | false =>
              have HD3 := HD2.out
              rw [declL_out _ _ _ _ _ _ e1] at HD3
              have HD3 := Lib.hid HD3
              go_wp2_with (first | (go_at_call 40; refine (in54_any _ _ _).mono ?_; rintro e w9 ⟨rfl, rfl⟩; dsimp only; rw [e1]))
              go_roundg (ml.length + 1 - (i + 1))
              case measure => have := HN.out; omega
              case rel => exact ⟨i + 1, acc, by omega, by first | go_num | (rw [IntWalk.wrap64_in _ (by omega)]; go_num), rfl, HD3.out, (Lib.hid (by have := HQ.out; omega)), HR.out, HW.out, HK.out⟩
            | true =>
              obtain ⟨y0, rfl, hyn, hy0⟩ := inM_at e1
              have d4 : ((y0 : Int) < (P.mth.l.length : Int)) := by omega
              obtain ⟨bf, of, haf, hokf, hcf⟩ := sl_at (HTW.out _ HW.out).mth (by omega)
              have tn : wr.cell? ⟨bf, of + y0 * 13, none⟩ = some (.string P.mth.l[y0].nm) := hcf y0 hy0 0 (by simp [Mth.cells])
              rw [haf] at pf
              cases e2 : (P.mth.l[y0].nm.toList == name.toList) with
              | false =>
                have HD3 := HD2.out
                rw [declL_in _ _ _ _ y0 _ hy0 _ e2, if_neg (by simp)] at HD3
                have HD3 := Lib.hid HD3
                clear hcf hokf haf
                generalize P.mth.l[y0].nm = nmy at *
                go_wp2_with (first | (go_at_call 40; refine (in54_any _ _ _).mono ?_; rintro e w9 ⟨rfl, rfl⟩; dsimp only; rw [e1]))
                go_roundg (ml.length + 1 - (i + 1))
                case measure => have := HN.out; omega
                case rel => exact ⟨i + 1, acc, by omega, by first | go_num | (rw [IntWalk.wrap64_in _ (by omega)]; go_num), rfl, HD3.out, (Lib.hid (by have := HQ.out; omega)), HR.out, HW.out, HK.out⟩
              | true =>
                have HD3 := HD2.out
                rw [declL_in _ _ _ _ y0 _ hy0 _ e2, if_pos rfl] at HD3
                have HD3 := Lib.hid (show (acc ++ [(0, (y0 : Int))]) ++ _ = res by rw [List.append_assoc]; exact HD3)
                clear hcf hokf haf HD2
                generalize P.mth.l[y0].nm = nmy at *
                have hacc := HQ.out
                have hwz := HW.out.size
                have hz3 := HZ3.out
                go_wp2_with (first
                  | (go_at_call 40; refine (in54_any _ _ _).mono ?_; rintro e w9 ⟨rfl, rfl⟩; dsimp only; rw [e1])
                  | (at_builtin; refine wpList_append_own _ rfl _ _ 38 rfl (N + 1) 40 i0 (.agg #[.int .i64 0, .int .i64 0]) 2 16 Tryz.underlying38 hi0 hz0 hz1 hzb rfl (by decide) _ _ _ rfl (HR.out.alloc _) ⟨wr.heap.size, 0, none⟩ 1 1 [I 0, I y0] rfl rfl (cell_two_new _ _ _ _) (by intro u hu; simp at hu; rcases hu with rfl | rfl <;> rfl) (by unfold maxLen; omega) (by omega) (by simp; omega) ?_; intro v' w4 hown' hgrow _; have HO4 := Lib.hid hown'; have HK4 := Lib.hid ((hgrow.block (N + 2) (by simp; omega) (row_not54 HR.out HK.out)).trans ((Below.heap_alloc _ _ _ (by omega)).trans HK.out)); have HW4 := Lib.hid ((HW.out.alloc (by omega) _).grown hgrow (by simp; omega) (fun q e => (HR.out.lt q e).1)); clear hown' hgrow))
                go_roundg (ml.length + 1 - (i + 1))
                case measure => have := HN.out; omega
                case rel => exact ⟨i + 1, acc ++ [(0, (y0 : Int))], by omega, by first | go_num | (rw [IntWalk.wrap64_in _ (by omega)]; go_num), rfl, HD3.out, (Lib.hid (by rw [List.length_append]; have := HQ.out; simp only [List.length_cons, List.length_nil]; omega)), (Lib.hid (by rw [List.length_append, flat_snoc]; exact HO4.out)), HW4.out, HK4.out⟩
          · obtain rfl : i = ml.length := by omega
            have HD3 := HD.out
            rw [List.drop_length, declL, List.nil_append] at HD3
            have HD4 := Lib.hid HD3
            clear HD HD3
            have HD := HD4
            clear HD4 HN hlt hi
            go_wp2_with fail
            go_loopg [7, 13] (yl.length + 1) (fun n v8 v1 wr => ∃ i : Nat, ∃ acc : List (Int × Int), i ≤ yl.length ∧ v1 = .int .i64 i ∧ Hid (n = yl.length + 1 - i) ∧ Hid (acc ++ (declL Tym.nm P.tym.l 2 name (yl.drop i)) = res) ∧ Hid (acc.length ≤ fl.length + ml.length + i) ∧ Hid (wr.ownsRow (N + 1) 40 2 v8 acc.length (acc.flatMap refC)) ∧ Hid (Below (N + 1) w3 wr) ∧ Hid (wr.heap[N + 2]? = some (.cells #[.string nm, I kind, I flags, I owner, .slice ta tl.length tc, .slice ra rl.length rc, .slice pa pl.length pc, .slice fa fl.length fc, .slice ma ml.length mc, .slice ya yl.length yc, .slice sa sl.length sc, .slice na nl.length nc, I p] 54)))
            case atStart => exact ⟨0, acc, by omega, rfl, rfl, HD.out, HQ.out, HR.out, HW.out, HK.out⟩
            case round =>
              clear HD HQ HR HW HK acc
              obtain ⟨i, acc, hi, rfl, HN, HD, HQ, HR, HW, HK⟩ := hrel
              have hsk := HSK.out
              have k9 : wr.cell? ⟨N + 2, 9, none⟩ = some (.slice ya yl.length yc) := cell_of_row wr (N + 2) 9 _ _ _ HK.out
              by_cases hlt : i < yl.length
              · have d2 : ((i : Int) < (yl.length : Int)) := by omega
                obtain ⟨bi, oi, hai, hoki, hci⟩ := sl_at HI5.out.1 (by show 0 < yl.length; omega)
                dsimp only at hai
                subst hai
                have ht : wr.cell? ⟨bi, oi + i, none⟩ = some (I yl[i]) := by have := ((hci i hlt).same (HW.out.block bi (by omega))) 0 (by simp); simpa using this
                have HD2 := HD.out
                rw [List.drop_eq_getElem_cons hlt] at HD2
                have HD2 := Lib.hid HD2
                clear hci hoki HD
                generalize yl[i] = y at *
                have pf : wr.cell? ⟨N, 4, none⟩ = some (.slice P.tym.a P.tym.l.length P.tym.cap) := HPW.out _ HW.out 4
                cases e1 : inM y P.tym.l.length with
                | false =>
                  have HD3 := HD2.out
                  rw [declL_out _ _ _ _ _ _ e1] at HD3
                  have HD3 := Lib.hid HD3
                  go_wp2_with (first | (go_at_call 40; refine (in54_any _ _ _).mono ?_; rintro e w9 ⟨rfl, rfl⟩; dsimp only; rw [e1]))
                  go_roundg (yl.length + 1 - (i + 1))
                  case measure => have := HN.out; omega
                  case rel => exact ⟨i + 1, acc, by omega, by first | go_num | (rw [IntWalk.wrap64_in _ (by omega)]; go_num), rfl, HD3.out, (Lib.hid (by have := HQ.out; omega)), HR.out, HW.out, HK.out⟩
                | true =>
                  obtain ⟨y0, rfl, hyn, hy0⟩ := inM_at e1
                  have d4 : ((y0 : Int) < (P.tym.l.length : Int)) := by omega
                  obtain ⟨bf, of, haf, hokf, hcf⟩ := sl_at (HTW.out _ HW.out).tym (by omega)
                  have tn : wr.cell? ⟨bf, of + y0 * 13, none⟩ = some (.string P.tym.l[y0].nm) := hcf y0 hy0 0 (by simp [Tym.cells])
                  rw [haf] at pf
                  cases e2 : (P.tym.l[y0].nm.toList == name.toList) with
                  | false =>
                    have HD3 := HD2.out
                    rw [declL_in _ _ _ _ y0 _ hy0 _ e2, if_neg (by simp)] at HD3
                    have HD3 := Lib.hid HD3
                    clear hcf hokf haf
                    generalize P.tym.l[y0].nm = nmy at *
                    go_wp2_with (first | (go_at_call 40; refine (in54_any _ _ _).mono ?_; rintro e w9 ⟨rfl, rfl⟩; dsimp only; rw [e1]))
                    go_roundg (yl.length + 1 - (i + 1))
                    case measure => have := HN.out; omega
                    case rel => exact ⟨i + 1, acc, by omega, by first | go_num | (rw [IntWalk.wrap64_in _ (by omega)]; go_num), rfl, HD3.out, (Lib.hid (by have := HQ.out; omega)), HR.out, HW.out, HK.out⟩
                  | true =>
                    have HD3 := HD2.out
                    rw [declL_in _ _ _ _ y0 _ hy0 _ e2, if_pos rfl] at HD3
                    have HD3 := Lib.hid (show (acc ++ [(2, (y0 : Int))]) ++ _ = res by rw [List.append_assoc]; exact HD3)
                    clear hcf hokf haf HD2
                    generalize P.tym.l[y0].nm = nmy at *
                    have hacc := HQ.out
                    have hwz := HW.out.size
                    have hz3 := HZ3.out
                    go_wp2_with (first
                      | (go_at_call 40; refine (in54_any _ _ _).mono ?_; rintro e w9 ⟨rfl, rfl⟩; dsimp only; rw [e1])
                      | (at_builtin; refine wpList_append_own _ rfl _ _ 38 rfl (N + 1) 40 i0 (.agg #[.int .i64 0, .int .i64 0]) 2 16 Tryz.underlying38 hi0 hz0 hz1 hzb rfl (by decide) _ _ _ rfl (HR.out.alloc _) ⟨wr.heap.size, 0, none⟩ 1 1 [I 2, I y0] rfl rfl (cell_two_new _ _ _ _) (by intro u hu; simp at hu; rcases hu with rfl | rfl <;> rfl) (by unfold maxLen; omega) (by omega) (by simp; omega) ?_; intro v' w4 hown' hgrow _; have HO4 := Lib.hid hown'; have HK4 := Lib.hid ((hgrow.block (N + 2) (by simp; omega) (row_not54 HR.out HK.out)).trans ((Below.heap_alloc _ _ _ (by omega)).trans HK.out)); have HW4 := Lib.hid ((HW.out.alloc (by omega) _).grown hgrow (by simp; omega) (fun q e => (HR.out.lt q e).1)); clear hown' hgrow))
                    go_roundg (yl.length + 1 - (i + 1))
                    case measure => have := HN.out; omega
                    case rel => exact ⟨i + 1, acc ++ [(2, (y0 : Int))], by omega, by first | go_num | (rw [IntWalk.wrap64_in _ (by omega)]; go_num), rfl, HD3.out, (Lib.hid (by rw [List.length_append]; have := HQ.out; simp only [List.length_cons, List.length_nil]; omega)), (Lib.hid (by rw [List.length_append, flat_snoc]; exact HO4.out)), HW4.out, HK4.out⟩
              · obtain rfl : i = yl.length := by omega
                have HD3 := HD.out
                rw [List.drop_length, declL, List.append_nil] at HD3
                have hacc := HQ.out
                obtain ⟨s, hsl, rfl, hsr⟩ := row_refs HR.out (by omega)
                have HS := Lib.hid hsr
                have HSL := Lib.hid (hsl.trans HD3)
                clear hsr hsl
                go_wp2_with fail
                go_ret
                exact ⟨s, HSL, HS.out, rfl, by rw [hN]; exact HBW.out _ HW.out⟩
end Go.Proofs.YtfbaikijnjafbaaGreatDoor
