/- Ancestors of the reference. Conditions: what the theorem names. -/
import Derived.Test.YtfbaikijnjafbaaGreatDoorQb
import Derived.Test.YtfbaikijnjafbaaGreatDoorCb
namespace Go.Proofs.YtfbaikijnjafbaaGreatDoor
set_option linter.unusedSimpArgs false
set_option linter.unusedVariables false
open Go.RowKit Go.Maps
set_option maxRecDepth 100000

theorem not_same {v u : Value} {a b n : Nat} (hu : u.ownBlock = some a) (hv : v.ownBlock = some b ∨ v.ownBlock = some n) (h1 : some a ≠ some b) (h2 : a < n) : u.ownBlock ≠ v.ownBlock := by
  rw [hu]
  rcases hv with h | h
  · rw [h]; exact h1
  · rw [h]; simp; omega
theorem mid_block {w : World} {base n : Nat} {e : TypeId} {v : Value} {xs : List Value} (h : ownsMid w base e v n xs) : ∃ g, v.ownBlock = some g ∧ g < w.heap.size := by
  obtain ⟨_, g, o, cap, cur, rfl, _, hg, _⟩ := h
  exact ⟨g, rfl, (Array.getElem?_eq_some_iff.1 hg).1⟩
set_option maxHeartbeats 12800000 in
theorem anc18_any {ok : Nat → Prop} (P : Prg) (c : Int) (w : World) (hp : PrgL ok w P) (hok : ∀ k, ok k → k < w.heap.size) (hwc : wf c) :
  Calls Tryz.prog 18 #[P.agg, I c] w fun e w' => ∃ s : Sl Int, Hid (s.l = ancM P.cls.l c) ∧ IntsL (inW w') w' s ∧ e = .returned s.v ∧ Below w.heap.size w w' := by
  have hb1 : Below w.heap.size w (w.alloc (.cells (prgCells P) 28)) := (Below.refl _ _).alloc (Nat.le_refl _) _
  have hb2 : Below w.heap.size w ((w.alloc (.cells (prgCells P) 28)).alloc (.cells #[] 3)) := hb1.alloc (by simp) _
  have hb3 : Below w.heap.size w (((w.alloc (.cells (prgCells P) 28)).alloc (.cells #[] 3)).alloc (.cells #[I c] 3)) := hb2.alloc (by simp; omega) _
  have hPb : (((w.alloc (.cells (prgCells P) 28)).alloc (.cells #[] 3)).alloc (.cells #[I c] 3)).heap[w.heap.size]? = some (.cells (prgCells P) 28) := by
    rw [Below.heap_alloc _ _ _ (by simp; omega), Below.heap_alloc _ _ _ (by simp)]
    exact heap_alloc_new w _
  have hz3 : (((w.alloc (.cells (prgCells P) 28)).alloc (.cells #[] 3)).alloc (.cells #[I c] 3)).heap.size = w.heap.size + 3 := by simp
  have hPL : PrgL (fun k => k < w.heap.size) (((w.alloc (.cells (prgCells P) 28)).alloc (.cells #[] 3)).alloc (.cells #[I c] 3)) P := (hp.same fun q hq => hb3.block q (hok q hq)).imp hok
  have hF : ownsMid (((w.alloc (.cells (prgCells P) 28)).alloc (.cells #[] 3)).alloc (.cells #[I c] 3)) (w.heap.size + 1) 3 (.slice (some ⟨w.heap.size + 1, 0, none⟩) 0 0) 0 [] := by
    have := (mid_made (w.alloc (.cells (prgCells P) 28)) #[] 3 (w.heap.size + 1) (by simp) (by simp)).alloc (.cells #[I c] 3)
    rwa [World.size_alloc] at this
  have hQ : ownsMid (((w.alloc (.cells (prgCells P) 28)).alloc (.cells #[] 3)).alloc (.cells #[I c] 3)) (w.heap.size + 1) 3 (.slice (some ⟨w.heap.size + 2, 0, none⟩) 1 1) 1 [I c] := by
    have := mid_made ((w.alloc (.cells (prgCells P) 28)).alloc (.cells #[] 3)) #[I c] 3 (w.heap.size + 1) (by simp) (by simp [maxLen])
    rwa [World.size_alloc, World.size_alloc] at this
  have hbig : P.cls.l.length ≤ 586406201480 := by have h1 := hp.cls.1; have h2 := hp.cls.2.1; omega
  have HPB := Lib.hid hPb
  have HB := Lib.hid hb3
  have HZ := Lib.hid hz3
  have HPL := Lib.hid hPL
  have HF0 := Lib.hid hF
  have HQ0 := Lib.hid hQ
  have HBIG := Lib.hid hbig
  have HWC := Lib.hid hwc
  clear hPb hb3 hb2 hz3 hb1 hp hok hPL hF hQ hbig hwc
  rw [prg_agg]
  generalize hdm : ancM P.cls.l c = res
  have HRES : Hid ((ancFin P.cls.l c).mergeSort (fun x y => decide (x ≤ y)) = res) := Lib.hid ((ancFin_sort _ _).symm.trans hdm)
  clear hdm
  go_enter Tryz.func18, Tryz.ntmps18
  go_wp2_with fail
  change Code.wp _ _ _ _ (((w.alloc (.cells (prgCells P) 28)).alloc (.cells #[] 3)).alloc (.cells #[I c] 3))
  generalize (((w.alloc (.cells (prgCells P) 28)).alloc (.cells #[] 3)).alloc (.cells #[I c] 3)) = w3 at *
  generalize hN : w.heap.size = N at *
  have HPW := Lib.hid (show ∀ W, Below (N + 1) w3 W → W.cell? ⟨N, 0, none⟩ = some (.slice P.cls.a P.cls.l.length P.cls.cap) from fun W hW => (hW.cell (by show N < N + 1; omega)).trans (cell_of_row w3 N 0 _ _ _ HPB.out))
  have HTW := Lib.hid (show ∀ W, Below (N + 1) w3 W → PrgL (fun k => k < N) W P from fun W hW => HPL.out.same fun q hq => hW.block q (by omega))
  have HBW := Lib.hid (show ∀ W, Below (N + 1) w3 W → Below N w W from fun W hW => HB.out.trans (hW.mono (by omega)))
  obtain ⟨i0, hi0, hz0, hz1, hzb⟩ := info_parts info3c
  clear HB HPB
  go_loopg [5, 6] (P.cls.l.length + 2) (fun n v5 v6 wr => ∃ k : Nat, ∃ l s : List Int, Hid (n = P.cls.l.length + 2 - k) ∧ Hid (k ≤ l.length + 1) ∧ Hid (Stand P.cls.l c k l) ∧ Hid (Good P.cls.l.length l s) ∧ Hid (ownsMid wr (N + 1) 3 v5 l.length (l.map I)) ∧ Hid (ownsMid wr (N + 1) 3 v6 (l.length + 1 - k) (((c :: l).drop k).map I)) ∧ Hid (v6.ownBlock ≠ v5.ownBlock) ∧ Hid (Below (N + 1) w3 wr))
  case atStart => exact ⟨0, [], [], rfl, Nat.zero_le _, .inl ⟨rfl, rfl⟩, (Lib.hid ⟨by simp, (fun x h => by cases h), fun _ => rfl, rfl⟩), HF0.out, HQ0.out, (Lib.hid (by simp [Value.ownBlock])), Below.refl _ _⟩
  case round =>
    obtain ⟨k, l, s, HN, HK, HS, HG, HF, HQ, HNE, HW⟩ := hrel
    have hbg := HBIG.out
    have hkl := HK.out
    have hll : l.length ≤ P.cls.l.length := nodup_le _ _ HG.out.nd HG.out.inr
    have hwz := HW.out.size
    have hz3 := HZ.out
    have hqq := HQ.out
    obtain ⟨_, gq, oq, capq, _, rfl, _, _, hcq, _⟩ := hqq
    by_cases hlt : k < l.length + 1
    · obtain ⟨m, hm⟩ : ∃ m, l.length + 1 - k = m + 1 := ⟨l.length - k, by omega⟩
      have hxk : k < (c :: l).length := by rw [List.length_cons]; exact hlt
      have hdr : (c :: l).drop k = (c :: l)[k] :: (c :: l).drop (k + 1) := List.drop_eq_getElem_cons hxk
      have HQ1 := HQ.out
      rw [hm, hdr, List.map_cons] at HQ1
      have q0 : wr.cell? ⟨gq, oq, none⟩ = some (I (c :: l)[k]) := by have := HQ1.cellAt 0 (by omega); rwa [Nat.add_zero, List.getElem?_cons_zero] at this
      have HQ3 := Lib.hid HQ1
      have HQ2 := Lib.hid HQ1.tail
      rw [hm] at hcq
      have HM := Lib.hid (show k ≤ l.length ∧ m = l.length - k by omega)
      have HM1 := Lib.hid hm
      have dm : (0 : Int) < ((m + 1 : Nat) : Int) := by omega
      have dm1 : (1 : Int) ≤ ((m + 1 : Nat) : Int) := by omega
      have HNE2 : Hid ((Value.slice (some ⟨gq, oq + 1, none⟩) m (capq - 1)).ownBlock ≠ u5.ownBlock) := Lib.hid HNE.out
      have hwx : wf (c :: l)[k] := by
        rcases k with _ | k
        · exact HWC.out
        · exact good_wf HG.out (by omega) _ (List.getElem_mem _)
      have hst : (inM (c :: l)[k] P.cls.l.length = false → l = [] ∧ k = 0 ∧ inM c P.cls.l.length = false) := fun h => by
        rcases k with _ | k
        · rcases HS.out with ⟨_, h2⟩ | ⟨_, h2, _⟩
          · exact ⟨h2, rfl, h⟩
          · omega
        · have := HG.out.inr _ (List.getElem_mem (show k < l.length by omega))
          rw [List.getElem_cons_succ] at h
          rw [h] at this; cases this
      have hsn : ∀ y : Nat, (c :: l)[k] = (y : Int) → ∀ hy : y < P.cls.l.length, Stand P.cls.l c (k + 1) (addL P.cls.l.length P.cls.l[y].pars.l l) := fun y he hy => by
        rcases k with _ | k
        · rcases HS.out with ⟨_, h2⟩ | ⟨_, h2, _⟩
          · subst h2; rw [List.getElem_cons_zero] at he; subst he; exact stand_first _ _ hy
          · omega
        · exact stand_next _ _ k l y (by omega) (by omega) (by rw [List.getElem_cons_succ] at he; exact he) hy HS.out
      have HST := Lib.hid hst
      have HSN := Lib.hid hsn
      have HDR := Lib.hid (show (c :: l).drop (k + 1) = (c :: l).drop (k + 1) from rfl)
      clear HQ1 hdr hst hsn
      generalize (c :: l)[k] = x at *
      clear HQ hxk HS HNE
      have p0 := HPW.out _ HW.out
      rw [hm]
      clear hm
      go_upto_region 5 with fail
      go_cut [6] (fun s6 wx => Hid (ownsMid wx (N + 1) 3 s6 m (((c :: l).drop (k + 1)).map I)) ∧ Hid (s6.ownBlock ≠ u5.ownBlock) ∧ wx = wr)
      case first =>
        by_cases hcap : capq = 1
        · subst hcap
          have hm0 : m = 0 := by omega
          clear HM HM1
          subst hm0
          have hnil : ((c :: l).drop (k + 1)).map I = [] := List.eq_nil_of_length_eq_zero HQ2.out.1
          go_wp2_with fail
          go_meet
          refine ⟨?_, HNE2.out, rfl⟩
          rw [hnil]
          rw [hnil] at HQ3
          exact HQ3.out.tail0
        · go_wp2_with fail
          go_meet
          exact ⟨HQ2.out, HNE2.out, rfl⟩
      case rest =>
        obtain ⟨HQ5, HNE5, rfl⟩ := hcut
        clear HQ3 HQ2 HNE2
        cases e0 : inM x P.cls.l.length with
        | false =>
          obtain ⟨rfl, rfl, hc0⟩ := HST.out e0
          go_wp2_with (first | (go_at_call 40; refine (in54_any _ _ _).mono ?_; rintro e w9 ⟨rfl, rfl⟩; dsimp only; rw [e0]))
          go_roundg (P.cls.l.length + 2 - (0 + 1))
          case measure => have := HN.out; omega
          case rel => exact ⟨1, [], s, rfl, Nat.le_refl _, (Lib.hid (stand_out _ _ hc0)), HG.out, HF.out, (Lib.hid (by have h := HQ5.out; have h1 := HM.out.2; simp at h1; subst h1; simpa using h)), HNE5.out, HW.out⟩
        | true =>
          obtain ⟨y, rfl, hxn, hy0⟩ := inM_at e0
          have dy : ((y : Int) < (P.cls.l.length : Int)) := by omega
          obtain ⟨b, o, ha, hokb, hcs⟩ := sl_at (HTW.out _ HW.out).cls (by omega)
          have hb0 : ∀ W, Below (N + 1) w3 W → W.cell? ⟨b, o + y * 13 + 5, none⟩ = some (.slice P.cls.l[y].pars.a P.cls.l[y].pars.l.length P.cls.l[y].pars.cap) := fun W hW => by
            obtain ⟨b3, o3, ha3, _, hc3⟩ := sl_at (HTW.out _ hW).cls (by omega)
            rw [ha] at ha3
            obtain ⟨rfl, rfl⟩ : b = b3 ∧ o = o3 := by simpa using ha3
            exact (cls_cells0 (hc3 y hy0)).2.2.2.2.2.1
          have hpa : ∀ W, Below (N + 1) w3 W → TysL (fun q => q < N) W P.cls.l[y].pars := fun W hW => ((HTW.out _ hW).clsL _ (List.getElem_mem hy0)).2.2.2.1
          have HCB := Lib.hid hb0
          have HPA := Lib.hid hpa
          have HSN2 := Lib.hid (HSN.out y rfl hy0)
          have HPW2 : Hid (∀ W, Below (N + 1) w3 W → W.cell? ⟨N, 0, none⟩ = some (.slice (some ⟨b, o, none⟩) P.cls.l.length P.cls.cap)) := Lib.hid (fun W hW => by have := HPW.out W hW; rwa [ha] at this)
          clear hcs hokb hb0 hpa ha p0 HSN HST
          have p0 := HPW2.out _ HW.out
          generalize P.cls.l[y].pars = par at *
          obtain ⟨ra, rc, rl⟩ := par
          dsimp only at HCB HPA HSN2
          have hlr : rl.length ≤ 140737488355328 := by have h1 := (HPA.out _ HW.out).1.1; have h2 := (HPA.out _ HW.out).1.2.1; dsimp only at h1 h2; omega
          have HLR := Lib.hid hlr
          generalize hlt2 : addL P.cls.l.length rl l = lt at *
          have HLT := Lib.hid hlt2
          clear hlt2 hlr hwx
          go_wp2_with (first | (go_at_call 40; refine (in54_any _ _ _).mono ?_; rintro e w9 ⟨rfl, rfl⟩; dsimp only; rw [e0]))
          clear p0 q0 dm dm1 hcq hkl hlt hwz
          go_loopg [5, 6, 8] (rl.length + 1) (fun n v5 v6 v wx => ∃ j : Nat, ∃ lx sx : List Int, j ≤ rl.length ∧ v = .int .i64 j ∧ Hid (n = rl.length + 1 - j) ∧ Hid (addL P.cls.l.length (rl.drop j) lx = lt) ∧ Hid (k ≤ lx.length) ∧ Hid (Good P.cls.l.length lx sx) ∧ Hid (ownsMid wx (N + 1) 3 v5 lx.length (lx.map I)) ∧ Hid (ownsMid wx (N + 1) 3 v6 (lx.length - k) (((c :: lx).drop (k + 1)).map I)) ∧ Hid (v6.ownBlock ≠ v5.ownBlock) ∧ Hid (Below (N + 1) w3 wx))
          case atStart => exact ⟨0, l, s, by omega, rfl, rfl, HLT.out, (Lib.hid HM.out.1), HG.out, HF.out, (Lib.hid (by have := HQ5.out; rwa [HM.out.2] at this)), HNE5.out, HW.out⟩
          case round =>
            clear HG HF HQ5 HNE5 HW HK
            obtain ⟨j, lx, sx, hj, rfl, HNJ, HDJ, HK, HG, HF, HQ, HNE, HW⟩ := hrel
            have hbg := HBIG.out
            have hlr := HLR.out
            have hll : lx.length ≤ P.cls.l.length := nodup_le _ _ HG.out.nd HG.out.inr
            have p0 := HPW2.out _ HW.out
            have pc5 := HCB.out _ HW.out
            have hwz := HW.out.size
            have hz3 := HZ.out
            by_cases hjt : j < rl.length
            · have d3 : ((j : Int) < (rl.length : Int)) := by omega
              obtain ⟨b2, o2, ha2, hok2, hcs2⟩ := sl_at (HPA.out _ HW.out).1 (by show 0 < rl.length; omega)
              dsimp only at ha2
              subst ha2
              obtain ⟨y0, y1, y2, y3, y4⟩ := tys_cells (hcs2 j hjt)
              have hwf : wf rl[j].s := by
                have := (HPA.out _ HW.out).2 _ (List.getElem_mem hjt)
                cases this with | mk hf _ _ => exact hf.2.1
              have HD3 := HDJ.out
              rw [List.drop_eq_getElem_cons hjt, addL] at HD3
              have HD3 := Lib.hid HD3
              have hb2lt : b2 < wr.heap.size := by omega
              have hb2ne : b2 ≠ wr.heap.size := by omega
              have hblt : b < wr.heap.size := (cell_spot pc5).2
              have hNlt : N < wr.heap.size := by omega
              have hNne : N ≠ wr.heap.size := by omega
              obtain ⟨sl, hsl, hv5, hsi⟩ := mid_slice HF.out (by omega) (good_wf HG.out (by omega))
              subst hv5
              clear hcs2 hok2 HDJ
              dsimp only at y0 y1 y2 y3 y4
              generalize hx : rl[j] = x at *
              obtain ⟨xk, xs, xn, xm, ⟨xa, xc, xl⟩⟩ := x
              dsimp only [Ty.k, Ty.s, Ty.nm, Ty.n, Ty.args, Sl.v] at y0 y1 y2 y3 y4 hwf HD3
              have HD3 : Hid (addL P.cls.l.length (rl.drop (j + 1)) (if (xk == 10 && (inM xs P.cls.l.length && !lx.contains xs)) = true then lx ++ [xs] else lx) = lt) := HD3
              have hY : ∀ j, (wr.alloc (.cells #[I xk, I xs, .string xn, I xm, .slice xa xl.length xc] 60)).cell? ⟨wr.heap.size, j, none⟩ = #[I xk, I xs, .string xn, I xm, .slice xa xl.length xc][j]? := fun j => World.cell?_alloc_new wr #[I xk, I xs, .string xn, I xm, .slice xa xl.length xc] 60 j
              have hWy : Below (N + 1) w3 (wr.alloc (.cells #[I xk, I xs, .string xn, I xm, .slice xa xl.length xc] 60)) := HW.out.alloc (by omega) _
              have hyz : (wr.alloc (.cells #[I xk, I xs, .string xn, I xm, .slice xa xl.length xc] 60)).heap.size = wr.heap.size + 1 := by simp
              have hFy := HF.out.alloc (.cells #[I xk, I xs, .string xn, I xm, .slice xa xl.length xc] 60)
              have hQy := HQ.out.alloc (.cells #[I xk, I xs, .string xn, I xm, .slice xa xl.length xc] 60)
              obtain ⟨gf, hgf, hgfl⟩ := mid_block HF.out
              obtain ⟨gq2, hgq, hgql⟩ := mid_block HQ.out
              have hsy : IntsL (fun _ => True) (wr.alloc (.cells #[I xk, I xs, .string xn, I xm, .slice xa xl.length xc] 60)) sl := ⟨(ints_on hsi ((Below.refl _ _).alloc (Nat.le_refl _) _)).1.imp (fun _ _ => trivial), hsi.2⟩
              have HAM := Lib.hid (show Calls Tryz.prog 36 #[sl.v, I xs] (wr.alloc (.cells #[I xk, I xs, .string xn, I xm, .slice xa xl.length xc] 60)) fun e w' => e = .returned (.bool (lx.contains xs)) ∧ (wr.alloc (.cells #[I xk, I xs, .string xn, I xm, .slice xa xl.length xc] 60)) = w' from by have := among50_any sl xs (wr.alloc (.cells #[I xk, I xs, .string xn, I xm, .slice xa xl.length xc] 60)) hsy; rwa [hsl, good_among (l := lx) (n := 0) (s := []) xs] at this)
              have pN : (wr.alloc (.cells #[I xk, I xs, .string xn, I xm, .slice xa xl.length xc] 60)).cell? ⟨N, 0, none⟩ = some (.slice (some ⟨b, o, none⟩) P.cls.l.length P.cls.cap) := HPW2.out _ hWy
              go_upto_region 11 with fail
              change Code.wp _ _ _ _ (wr.alloc (.cells #[I xk, I xs, .string xn, I xm, .slice xa xl.length xc] 60))
              generalize (wr.alloc (.cells #[I xk, I xs, .string xn, I xm, .slice xa xl.length xc] 60)) = wy at *
              have z0 : wy.cell? ⟨wr.heap.size, 0, none⟩ = some (I xk) := hY 0
              have z1 : wy.cell? ⟨wr.heap.size, 1, none⟩ = some (I xs) := hY 1
              have HWY := Lib.hid hWy
              have HYZ := Lib.hid hyz
              have HFY := Lib.hid hFy
              have HQY := Lib.hid hQy
              have HSL := Lib.hid hsl
              have HGF := Lib.hid hgf
              have HGQ := Lib.hid hgq
              have HGFL := Lib.hid hgfl
              have HGQL := Lib.hid hgql
              clear hY y0 y1 y2 y3 y4 hWy hyz hx hFy hQy HF HQ hsy hsl hsi p0 pc5 hgf hgq
              cases e1 : (xk == 10) with
              | false =>
                have HD4 : Hid (addL P.cls.l.length (rl.drop (j + 1)) lx = lt) := Lib.hid (by have := HD3.out; rw [e1, Bool.false_and, if_neg (by simp)] at this; exact this)
                go_wp2_with fail
                go_roundg (rl.length + 1 - (j + 1))
                case measure => have := HNJ.out; omega
                case rel => exact ⟨j + 1, lx, sx, by omega, by first | go_num | (rw [IntWalk.wrap64_in _ (by omega)]; go_num), rfl, HD4.out, HK.out, HG.out, HFY.out, HQY.out, HNE.out, HWY.out⟩
              | true =>
                cases e2 : inM xs P.cls.l.length with
                | false =>
                  have HD4 : Hid (addL P.cls.l.length (rl.drop (j + 1)) lx = lt) := Lib.hid (by have := HD3.out; rw [e2, Bool.false_and, Bool.and_false, if_neg (by simp)] at this; exact this)
                  go_wp2_with (first | (go_at_call 40; refine (in54_any _ _ _).mono ?_; rintro e w9 ⟨rfl, rfl⟩; dsimp only; rw [e2]))
                  go_roundg (rl.length + 1 - (j + 1))
                  case measure => have := HNJ.out; omega
                  case rel => exact ⟨j + 1, lx, sx, by omega, by first | go_num | (rw [IntWalk.wrap64_in _ (by omega)]; go_num), rfl, HD4.out, HK.out, HG.out, HFY.out, HQY.out, HNE.out, HWY.out⟩
                | true =>
                  cases e3 : lx.contains xs with
                  | true =>
                    have HD4 : Hid (addL P.cls.l.length (rl.drop (j + 1)) lx = lt) := Lib.hid (by have := HD3.out; rw [e3, Bool.not_true, Bool.and_false, Bool.and_false, if_neg (by simp)] at this; exact this)
                    go_wp2_with (first | (go_at_call 40; refine (in54_any _ _ _).mono ?_; rintro e w9 ⟨rfl, rfl⟩; dsimp only; rw [e2]) | (go_at_call 36; refine HAM.out.mono ?_; rintro e w5 ⟨rfl, rfl⟩; dsimp only; rw [e3]))
                    go_roundg (rl.length + 1 - (j + 1))
                    case measure => have := HNJ.out; omega
                    case rel => exact ⟨j + 1, lx, sx, by omega, by first | go_num | (rw [IntWalk.wrap64_in _ (by omega)]; go_num), rfl, HD4.out, HK.out, HG.out, HFY.out, HQY.out, HNE.out, HWY.out⟩
                  | false =>
                    have HD4 : Hid (addL P.cls.l.length (rl.drop (j + 1)) (lx ++ [xs]) = lt) := Lib.hid (by have := HD3.out; rw [e1, e2, e3, Bool.not_false, Bool.and_true, Bool.and_true, if_pos rfl] at this; exact this)
                    have HG4 := Lib.hid (HG.out.add e2 e3)
                    have hyge : wr.heap.size < wy.heap.size := by have := HYZ.out; omega
                    have hk2 := HK.out
                    go_wp2_with (first
                      | (go_at_call 40; refine (in54_any _ _ _).mono ?_; rintro e w9 ⟨rfl, rfl⟩; dsimp only; rw [e2])
                      | (go_at_call 36; refine HAM.out.mono ?_; rintro e w5 ⟨rfl, rfl⟩; dsimp only; rw [e3])
                      | (at_builtin; refine wpList_append_mid _ rfl _ _ 44 rfl (N + 1) 3 i0 (.int .i64 0) 8 Tryz.underlying44 hi0 hz0 hz1 hzb rfl sl.v lx.length (lx.map I) rfl (HFY.out.alloc _) ⟨wy.heap.size, 0, none⟩ 1 1 [I xs] rfl rfl (cell_one_new _ _ _) (by intro u hu; simp at hu; subst hu; rfl) (by unfold maxLen; omega) (by omega) (by simp; omega) ?_; intro v1 w4 hown1 hgrow1 hloc1; have hw4 := hgrow1.size; rw [World.size_alloc] at hw4; have z1b : w4.cell? ⟨wr.heap.size, 1, none⟩ = some (I xs) := (World.cell?_of_block (hgrow1.block wr.heap.size (by simp; omega) (by rw [HGF.out]; simp; have := HGFL.out; omega))).trans ((World.cell?_alloc_lt _ _ _ (by show wr.heap.size < _; omega)).trans z1); have HF4 := Lib.hid hown1; have HQ4 := Lib.hid ((HQY.out.alloc _).kept hgrow1 HNE.out); have HW4 := Lib.hid ((HWY.out.alloc (by omega) _).grown hgrow1 (by simp; omega) (fun q e => (HFY.out.lt q e).1)); have HL1 := Lib.hid hloc1; clear hown1 hgrow1 hloc1)
                      | (at_builtin; refine wpList_append_mid _ rfl _ _ 44 rfl (N + 1) 3 i0 (.int .i64 0) 8 Tryz.underlying44 hi0 hz0 hz1 hzb rfl u6 (lx.length - k) (((c :: lx).drop (k + 1)).map I) rfl (HQ4.out.alloc _) ⟨w4.heap.size, 0, none⟩ 1 1 [I xs] rfl rfl (cell_one_new _ _ _) (by intro u hu; simp at hu; subst hu; rfl) (by unfold maxLen; omega) (by omega) (by simp; omega) ?_; intro v2 w6 hown2 hgrow2 hloc2; have HQ6 := Lib.hid hown2; have hne1 : v1.ownBlock ≠ Value.ownBlock _ := (show _ ≠ _ from fun e => by rcases HL1.out with h | h; exact HNE.out (e.symm.trans h); (rw [HGQ.out] at e; rw [h] at e; simp at e; have := HGQL.out; omega)); have HF6 := Lib.hid ((HF4.out.alloc _).kept hgrow2 hne1); have HW6 := Lib.hid ((HW4.out.alloc (by omega) _).grown hgrow2 (by simp; omega) (fun q e => (HQ4.out.lt q e).1)); have HNE6 : Hid (v2.ownBlock ≠ v1.ownBlock) := Lib.hid (fun e => by rcases hloc2 with h | h; exact hne1 (e.symm.trans h); (obtain ⟨g4, hg4, hg4l⟩ := mid_block HF4.out; rw [h, hg4] at e; simp at e; omega)); clear hown2 hgrow2 hloc2 hne1))
                    go_roundg (rl.length + 1 - (j + 1))
                    case measure => have := HNJ.out; omega
                    case rel => exact ⟨j + 1, lx ++ [xs], xs :: sx, by omega, by first | go_num | (rw [IntWalk.wrap64_in _ (by omega)]; go_num), rfl, HD4.out, (Lib.hid (by rw [List.length_append]; have := HK.out; omega)), HG4.out, (Lib.hid (by rw [List.length_append, map_snoc]; exact HF6.out)), (Lib.hid (by have h := HQ6.out; rw [List.length_append, List.length_cons, List.length_nil, ← List.cons_append, List.drop_append_of_le_length (by rw [List.length_cons]; omega), map_snoc, show lx.length + (0 + 1) - k = lx.length - k + 1 by omega]; exact h)), HNE6.out, HW6.out⟩
            · obtain rfl : j = rl.length := by omega
              obtain rfl : lx = lt := by have := HDJ.out; rw [List.drop_length, addL] at this; exact this
              go_wp2_with fail
              go_roundg (P.cls.l.length + 2 - (k + 1))
              case measure => have := HN.out; have := HM.out; omega
              case rel => exact ⟨k + 1, lx, sx, rfl, (Lib.hid (by have := HK.out; omega)), HSN2.out, HG.out, HF.out, (Lib.hid (by have h := HQ.out; rwa [show lx.length + 1 - (k + 1) = lx.length - k by omega])), HNE.out, HW.out⟩
    · obtain rfl : k = l.length + 1 := by omega
      have hfin : l = ancFin P.cls.l c := stand_end _ _ _ HS.out
      have HRS : Hid (rangeL l P.cls.l.length 0 = res) := Lib.hid (by rw [range_sort HG.out, hfin]; exact HRES.out)
      obtain ⟨sl, hsl, hv5, hsi⟩ := mid_slice HF.out (by omega) (good_wf HG.out (by omega))
      subst hv5
      have HSI := Lib.hid hsi
      have HSL := Lib.hid hsl
      have HWF : Hid (∀ x ∈ res, wf x) := Lib.hid (fun x hx => by rw [← HRS.out] at hx; exact good_wf HG.out (by omega) x ((rangeL_mem _ _ _ x).1 hx).1)
      have dm : ((l.length + 1 - (l.length + 1) : Nat) : Int) = 0 := by omega
      have hdm0 : l.length + 1 - (l.length + 1) = 0 := by omega
      rw [hdm0]
      have hrow : (wr.alloc (.cells #[] 3)).ownsRow wr.heap.size 3 1 (.slice (some ⟨wr.heap.size, 0, none⟩) 0 0) 0 [] := World.ownsRow_made (base := wr.heap.size) (e := 3) (size := 1) wr #[] 0 (Nat.le_refl _) (by unfold maxLen; omega) rfl
      have hWo : Below wr.heap.size wr (wr.alloc (.cells #[] 3)) := (Below.refl _ _).alloc (Nat.le_refl _) _
      have HRO := Lib.hid hrow
      have HWO := Lib.hid hWo
      clear hrow hWo hsi hsl hfin HQ HF HS
      have p0 := HPW.out _ HW.out
      go_wp2_with fail
      change Code.wp _ _ _ _ (wr.alloc (.cells #[] 3))
      clear p0
      go_loopg [10, 11] (P.cls.l.length + 1) (fun n v10 v11 wx => ∃ i : Nat, ∃ acc : List Int, i ≤ P.cls.l.length ∧ v11 = .int .i64 i ∧ Hid (n = P.cls.l.length + 1 - i) ∧ Hid (acc ++ rangeL l (P.cls.l.length - i) i = res) ∧ Hid (acc.length ≤ i) ∧ Hid (wx.ownsRow wr.heap.size 3 1 v10 acc.length (acc.map I)) ∧ Hid (Below wr.heap.size wr wx))
      case atStart => exact ⟨0, [], by omega, rfl, rfl, HRS.out, Nat.zero_le _, HRO.out, HWO.out⟩
      case round =>
        obtain ⟨i, acc, hi, rfl, HNI, HDI, HQI, HRI, HWI⟩ := hrel
        have hbg := HBIG.out
        have hW0 := HW.out.trans (HWI.out.mono (by have := HW.out.size; have := HZ.out; omega))
        have p0 := HPW.out _ hW0
        have HW0 := Lib.hid hW0
        clear hW0 hwz hz3 dm hdm0
        by_cases hlt : i < P.cls.l.length
        · have d2 : ((i : Int) < (P.cls.l.length : Int)) := by omega
          obtain ⟨m, hm⟩ : ∃ m, P.cls.l.length - i = m + 1 := ⟨P.cls.l.length - i - 1, by omega⟩
          have HD2 := HDI.out
          rw [hm, rangeL] at HD2
          have HD2 := Lib.hid HD2
          have HM := Lib.hid (show P.cls.l.length - (i + 1) = m by omega)
          have HAM : Hid (Calls Tryz.prog 36 #[sl.v, I i] wr fun e w' => e = .returned (.bool (amongM l i)) ∧ wr = w') := Lib.hid (by have := among50_any sl i wr (ints_on HSI.out HWI.out); rwa [HSL.out] at this)
          clear hm HDI
          cases e1 : amongM l i with
          | false =>
            have HD3 : Hid (acc ++ rangeL l (P.cls.l.length - (i + 1)) (i + 1) = res) := Lib.hid (by have := HD2.out; rw [e1, if_neg (by simp)] at this; rw [HM.out]; exact this)
            go_wp2_with (first | (go_at_call 36; refine HAM.out.mono ?_; rintro e w5 ⟨rfl, rfl⟩; dsimp only; rw [e1]))
            go_roundg (P.cls.l.length + 1 - (i + 1))
            case measure => have := HNI.out; omega
            case rel => exact ⟨i + 1, acc, by omega, by first | go_num | (rw [IntWalk.wrap64_in _ (by omega)]; go_num), rfl, HD3.out, (Lib.hid (by have := HQI.out; omega)), HRI.out, HWI.out⟩
          | true =>
            have HD3 : Hid ((acc ++ [(i : Int)]) ++ rangeL l (P.cls.l.length - (i + 1)) (i + 1) = res) := Lib.hid (by have := HD2.out; rw [e1, if_pos rfl] at this; rw [HM.out, List.append_assoc]; exact this)
            have hacc := HQI.out
            go_wp2_with (first
              | (go_at_call 36; refine HAM.out.mono ?_; rintro e w5 ⟨rfl, rfl⟩; dsimp only; rw [e1])
              | (at_builtin; refine wpList_append_own _ rfl _ _ 44 rfl _ 3 i0 (.int .i64 0) 1 8 Tryz.underlying44 hi0 hz0 hz1 hzb rfl (by decide) _ _ _ rfl (HRI.out.alloc _) ⟨wr.heap.size, 0, none⟩ 1 1 [I i] rfl rfl (cell_one_new _ _ _) (by intro u hu; simp at hu; subst hu; rfl) (by unfold maxLen; omega) (by omega) (by have := HWI.out.size; simp; omega) ?_; intro v' w4 hown' hgrow _; have HO4 := Lib.hid hown'; have HW4 := Lib.hid ((HWI.out.alloc HWI.out.size _).grown hgrow (by have := HWI.out.size; simp; omega) (fun q e => (HRI.out.lt q e).1)); clear hown' hgrow))
            go_roundg (P.cls.l.length + 1 - (i + 1))
            case measure => have := HNI.out; omega
            case rel => exact ⟨i + 1, acc ++ [(i : Int)], by omega, by first | go_num | (rw [IntWalk.wrap64_in _ (by omega)]; go_num), rfl, HD3.out, (Lib.hid (by rw [List.length_append]; have := HQI.out; simp only [List.length_cons, List.length_nil]; omega)), (Lib.hid (by rw [List.length_append, map_snoc]; exact HO4.out)), HW4.out⟩
        · obtain rfl : i = P.cls.l.length := by omega
          have HD3 := HDI.out
          rw [Nat.sub_self, rangeL, List.append_nil] at HD3
          subst HD3
          have hacc := HQI.out
          obtain ⟨so, hso, hsv, hsr⟩ := row_slice HRI.out (by omega) HWF.out
          subst hsv
          have HS2 := Lib.hid hsr
          have HSL2 := Lib.hid hso
          clear hsr hso
          go_wp2_with fail
          go_ret
          exact ⟨so, HSL2, HS2.out, rfl, (by first | exact HBW.out _ HW0.out | (rw [hN]; exact HBW.out _ HW0.out))⟩
end Go.Proofs.YtfbaikijnjafbaaGreatDoor
