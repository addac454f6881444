/- The closure of Ancestors is addL. Conditions: what the theorem names. -/
import Derived.Test.YtfbaikijnjafbaaGreatDoorSn
namespace Go.Proofs.YtfbaikijnjafbaaGreatDoor
set_option linter.unusedSimpArgs false
set_option linter.unusedVariables false
open Go.RowKit Go.Maps
set_option maxRecDepth 100000

theorem info3 : (Tryz.prog.info? 3).map (fun i => (i.zero, i.size, i.bytes)) = some (some (.int .i64 0), 1, 8) := by kernel_rfl
set_option maxHeartbeats 3200000 in
theorem add32_any (q : Nat) (P : Prg) (l s : List Int) (c : Cls) (W : World) (h : Anc W q P l s) (hgd : Good P.cls.l.length l s) (hc : ClsL (fun k => k < q) W c) :
    Calls Tryz.prog 43 #[.agg c.cells.toArray, ptr (q + 1), ptr (q + 4), ptr (q + 2)] W fun e w' => e = .returned (.tuple #[]) ∧ (∃ s', Anc w' q P (addL P.cls.l.length c.pars.l l) s' ∧ Good P.cls.l.length (addL P.cls.l.length c.pars.l l) s') ∧ Below (q + 2) W w' := by
  have hn : P.cls.l.length ≤ 586406201480 := by have h1 := h.tl.prg.cls.1; have h2 := h.tl.prg.cls.2.1; omega
  have HN0 := Lib.hid hn
  have HSL := Lib.hid hc.2.2.2.1
  have hz := h.lt
  generalize hres : addL P.cls.l.length c.pars.l l = res
  have HR := Lib.hid hres
  rw [cls_agg]
  have hb1 : Below (q + 2) W (boxC W c) := (Below.refl _ _).alloc (by omega) _
  have HA := Lib.hid (h.alloc (.cells #[.string c.nm, I c.kind, I c.flags, I c.owner, .slice c.tps.a c.tps.l.length c.tps.cap, .slice c.pars.a c.pars.l.length c.pars.cap, .slice c.prms.a c.prms.l.length c.prms.cap, .slice c.flds.a c.flds.l.length c.flds.cap, .slice c.mths.a c.mths.l.length c.mths.cap, .slice c.tys.a c.tys.l.length c.tys.cap, .slice c.sups.a c.sups.l.length c.sups.cap, .slice c.ini.a c.ini.l.length c.ini.cap, I c.p] 54))
  have HB := Lib.hid hb1
  have HG := Lib.hid hgd
  have HQ := Lib.hid hz
  obtain ⟨nm, kind, flags, owner, ⟨ta, tc, tl⟩, ⟨ra, rc, rl⟩, ⟨pa, pc, pl⟩, ⟨fa, fc, fl⟩, ⟨ma, mc, ml⟩, ⟨ya, yc, yl⟩, ⟨sa, sc, sl⟩, ⟨na, nc, nl⟩, p⟩ := c
  unfold boxC at HB
  dsimp only at HB HA HR HSL
  clear h hn hc hres hb1 hgd hz
  have hlr : rl.length ≤ 140737488355328 := by have h1 := HSL.out.1.1; have h2 := HSL.out.1.2.1; dsimp only at h1 h2; omega
  have HLR := Lib.hid hlr
  go_enter Tryz.func43, Tryz.ntmps43
  go_upto_region 1 with fail
  change Code.wp _ _ _ _ (W.alloc (.cells #[.string nm, I kind, I flags, I owner, .slice ta tl.length tc, .slice ra rl.length rc, .slice pa pl.length pc, .slice fa fl.length fc, .slice ma ml.length mc, .slice ya yl.length yc, .slice sa sl.length sc, .slice na nl.length nc, I p] 54))
  have hX : ∀ j, (W.alloc (.cells #[.string nm, I kind, I flags, I owner, .slice ta tl.length tc, .slice ra rl.length rc, .slice pa pl.length pc, .slice fa fl.length fc, .slice ma ml.length mc, .slice ya yl.length yc, .slice sa sl.length sc, .slice na nl.length nc, I p] 54)).cell? ⟨W.heap.size, j, none⟩ = #[.string nm, I kind, I flags, I owner, .slice ta tl.length tc, .slice ra rl.length rc, .slice pa pl.length pc, .slice fa fl.length fc, .slice ma ml.length mc, .slice ya yl.length yc, .slice sa sl.length sc, .slice na nl.length nc, I p][j]? := fun j => World.cell?_alloc_new W _ 54 j
  generalize (W.alloc (.cells #[.string nm, I kind, I flags, I owner, .slice ta tl.length tc, .slice ra rl.length rc, .slice pa pl.length pc, .slice fa fl.length fc, .slice ma ml.length mc, .slice ya yl.length yc, .slice sa sl.length sc, .slice na nl.length nc, I p] 54)) = w1 at *
  have x5 : w1.cell? ⟨W.heap.size, 5, none⟩ = some (.slice ra rl.length rc) := hX 5
  clear hX
  have HSL1 : Hid (TysL (fun k => k < q) w1 ⟨ra, rc, rl⟩) := Lib.hid (HSL.out.same fun k hk => HB.out.block k (by omega))
  go_wp2_with fail
  clear x5
  go_loopg [10] (rl.length + 1) (fun n v wr => ∃ i : Nat, ∃ l1 s1 : List Int, i ≤ rl.length ∧ v = .int .i64 i ∧ Hid (n = rl.length + 1 - i) ∧ Hid (addL P.cls.l.length (rl.drop i) l1 = res) ∧ Hid (Anc wr q P l1 s1) ∧ Hid (Good P.cls.l.length l1 s1) ∧ Hid (Below (q + 2) w1 wr))
  case atStart => exact ⟨0, l, s, by omega, rfl, rfl, HR.out, HA.out, HG.out, Below.refl _ _⟩
  case round =>
    obtain ⟨i, l1, s1, hi, rfl, HN, HD, HA, HG, HW⟩ := hrel
    by_cases hlt : i < rl.length
    · have d2 : ((i : Int) < (rl.length : Int)) := by omega
      obtain ⟨b, o, ha, hok, hcs⟩ := sl_at HSL1.out.1 (by show 0 < rl.length; omega)
      dsimp only at ha
      subst ha
      obtain ⟨t0, t1, t2, t3, t4⟩ := tys_cells ((hcs i hlt).same (HW.out.block b (by omega)))
      have hwf : wf rl[i].s := by
        have := HSL1.out.2 _ (List.getElem_mem hlt)
        cases this with | mk hf _ _ => exact hf.2.1
      have HD2 : Hid (addL P.cls.l.length (rl.drop (i + 1)) (if (rl[i].k == 10 && (inM rl[i].s P.cls.l.length && !l1.contains rl[i].s)) = true then l1 ++ [rl[i].s] else l1) = res) := by
        have := HD.out; rw [List.drop_eq_getElem_cons hlt, addL] at this; exact this
      have hbw : b < wr.heap.size := by have := HA.out.lt; omega
      have hbw2 : b ≠ wr.heap.size := by omega
      clear hcs hok HD
      dsimp only at t0 t1 t2 t3 t4
      generalize rl[i] = x at *
      obtain ⟨xk, xs, xn, xm, ⟨xa, xc, xl⟩⟩ := x
      dsimp only [Ty.k, Ty.s, Ty.nm, Ty.n, Ty.args] at t0 t1 t2 t3 t4 hwf HD2
      have HD2 : Hid (addL P.cls.l.length (rl.drop (i + 1)) (if (xk == 10 && (inM xs P.cls.l.length && !l1.contains xs)) = true then l1 ++ [xs] else l1) = res) := HD2
      go_upto_region 4 with fail
      change Code.wp _ _ _ _ (wr.alloc (.cells #[I xk, I xs, .string xn, I xm, .slice xa xl.length xc] 60))
      have hX2 : ∀ j, (wr.alloc (.cells #[I xk, I xs, .string xn, I xm, .slice xa xl.length xc] 60)).cell? ⟨wr.heap.size, j, none⟩ = #[I xk, I xs, .string xn, I xm, .slice xa xl.length xc][j]? := fun j => World.cell?_alloc_new wr _ 60 j
      have HA2 := Lib.hid (HA.out.alloc (.cells #[I xk, I xs, .string xn, I xm, .slice xa xl.length xc] 60))
      have HW2 : Hid (Below (q + 2) w1 (wr.alloc (.cells #[I xk, I xs, .string xn, I xm, .slice xa xl.length xc] 60))) := Lib.hid (HW.out.alloc (by have := HA.out.lt; omega) _)
      have hqr : q + 5 ≤ wr.heap.size := HA.out.lt
      have hsz : (wr.alloc (.cells #[I xk, I xs, .string xn, I xm, .slice xa xl.length xc] 60)).heap.size = wr.heap.size + 1 := by simp
      generalize (wr.alloc (.cells #[I xk, I xs, .string xn, I xm, .slice xa xl.length xc] 60)) = wx at *
      have y0 : wx.cell? ⟨wr.heap.size, 0, none⟩ = some (I xk) := hX2 0
      have y1 : wx.cell? ⟨wr.heap.size, 1, none⟩ = some (I xs) := hX2 1
      have yt : wx.cell? ⟨q + 1, 0, none⟩ = some (ptr q) := HA2.out.bt.cell
      have ym : wx.cell? ⟨q + 4, 0, none⟩ = some (.map (some (q + 3))) := HA2.out.bm.cell
      have HZ1 : Hid (sizeM P 1 = P.cls.l.length) := Lib.hid rfl
      have hlook := HA2.out.set.lookI hwf
      rw [HG.out.eq] at hlook
      have HSZ := Lib.hid hsz
      have hlr := HLR.out
      clear hX2 t0 t1 t2 t3 t4 hbw hbw2 hsz
      cases e1 : (xk == 10) with
      | false =>
        have HD3 : Hid (addL P.cls.l.length (rl.drop (i + 1)) l1 = res) := by have := HD2.out; rw [e1, Bool.false_and, if_neg (by simp)] at this; exact this
        go_wp2_with fail
        go_roundg (rl.length + 1 - (i + 1))
        case measure => have := HN.out; omega
        case rel => exact ⟨i + 1, l1, s1, by omega, by first | go_num | (rw [IntWalk.wrap64_in _ (by omega)]; go_num), rfl, HD3, HA2.out, HG.out, HW2.out⟩
      | true =>
        cases e2 : inM xs P.cls.l.length with
        | false =>
          have HD3 : Hid (addL P.cls.l.length (rl.drop (i + 1)) l1 = res) := by have := HD2.out; rw [e1, e2, Bool.false_and, Bool.and_false, if_neg (by simp)] at this; exact this
          go_wp2_with (first | (go_at_call 41; refine (has_any P q _ _ _ HA2.out.tl).mono ?_; rintro e w2 ⟨rfl, rfl⟩; dsimp only; rw [HZ1.out, e2]))
          go_roundg (rl.length + 1 - (i + 1))
          case measure => have := HN.out; omega
          case rel => exact ⟨i + 1, l1, s1, by omega, by first | go_num | (rw [IntWalk.wrap64_in _ (by omega)]; go_num), rfl, HD3, HA2.out, HG.out, HW2.out⟩
        | true =>
          cases e3 : l1.contains xs with
          | true =>
            have HD3 : Hid (addL P.cls.l.length (rl.drop (i + 1)) l1 = res) := by have := HD2.out; rw [e1, e2, e3, Bool.not_true, Bool.and_false, Bool.and_false, if_neg (by simp)] at this; exact this
            rw [e3] at hlook
            go_wp2_with (first | (go_at_call 41; refine (has_any P q _ _ _ HA2.out.tl).mono ?_; rintro e w2 ⟨rfl, rfl⟩; dsimp only; rw [HZ1.out, e2]))
            go_roundg (rl.length + 1 - (i + 1))
            case measure => have := HN.out; omega
            case rel => exact ⟨i + 1, l1, s1, by omega, by first | go_num | (rw [IntWalk.wrap64_in _ (by omega)]; go_num), rfl, HD3, HA2.out, HG.out, HW2.out⟩
          | false =>
            have HD3 : Hid (addL P.cls.l.length (rl.drop (i + 1)) (l1 ++ [xs]) = res) := by have := HD2.out; rw [e1, e2, e3, Bool.not_false, Bool.and_true, Bool.true_and, if_pos rfl] at this; exact this
            rw [e3] at hlook
            have HG3 := Lib.hid (HG.out.add e2 e3)
            have hll : l1.length ≤ 586406201480 := Nat.le_trans (nodup_le _ _ HG.out.nd HG.out.inr) HN0.out
            have hls : s1.length ≤ 586406201480 := by rw [HG.out.len]; exact hll
            obtain ⟨w2, hst, hs2, hg2⟩ := HA2.out.set.storeI hwf (by unfold maxLen; omega)
            have hA3 := HA2.out.stored hs2 hg2
            have HB3 : Hid (Below (q + 2) w1 w2) := Lib.hid (HW2.out.grown hg2 (by have := HSZ.out; omega) (fun k e => by cases e; omega))
            have z1 : w2.cell? ⟨wr.heap.size, 1, none⟩ = some (I xs) := (World.cell?_of_block (hg2.block _ (by show wr.heap.size < _; have := HSZ.out; omega) (by show some wr.heap.size ≠ _; simp; omega))).trans y1
            obtain ⟨v, hv, hrow⟩ := hA3.bl
            have hvc := hv.cell
            have h2sz := hA3.lt
            have HA3 := Lib.hid hA3
            have HV := Lib.hid hv
            have HROW := Lib.hid hrow
            obtain ⟨i0, hi0, hz0, hz1, hz2⟩ := info_parts info3
            clear hs2 hg2 hwf hA3 hv hrow
            go_wp2_with (first
              | (go_at_call 41; refine (has_any P q _ _ _ HA2.out.tl).mono ?_; rintro e w2 ⟨rfl, rfl⟩; dsimp only; rw [HZ1.out, e2])
              | (at_builtin; refine wpList_append_own _ rfl _ _ 44 rfl (q + 2) 3 i0 (.int .i64 0) 1 8 Tryz.underlying44 hi0 hz0 hz1 hz2 rfl (by decide) _ _ _ rfl (HROW.out.alloc _) ⟨w2.heap.size, 0, none⟩ 1 1 [I xs] rfl rfl (cell_one_new _ _ _) (by intro u hu; simp at hu; subst hu; rfl) (by unfold maxLen; omega) (by omega) (by simp; omega) ?_; intro v' w3 hown' hgrow _; obtain ⟨g', cap', rfl⟩ := ownsRow_succ hown'; obtain ⟨hv1, hA4, hb4⟩ := HA3.out.appended (x := xs) HV.out HROW.out hown' hgrow; have HA4 := Lib.hid hA4; have HB4 := Lib.hid hb4; have hc1 := hv1.cell; have hf1 := hv1.frozen; clear hA4 hb4 hown' hgrow hv1))
            go_roundg (rl.length + 1 - (i + 1))
            case measure => have := HN.out; omega
            case rel => exact ⟨i + 1, l1 ++ [xs], xs :: s1, by omega, by first | go_num | (rw [IntWalk.wrap64_in _ (by omega)]; go_num), rfl, HD3, HA4.out, HG3.out, HB3.out.trans HB4.out⟩
    · obtain rfl : i = rl.length := by omega
      obtain rfl : l1 = res := by have := HD.out; rw [List.drop_length, addL] at this; exact this
      go_wp2_with fail
      go_end0
      exact ⟨rfl, ⟨s1, HA.out, HG.out⟩, HB.out.trans HW.out⟩
end Go.Proofs.YtfbaikijnjafbaaGreatDoor
