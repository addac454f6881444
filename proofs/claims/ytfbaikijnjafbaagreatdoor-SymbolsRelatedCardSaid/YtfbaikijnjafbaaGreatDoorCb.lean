/- Children of the reference. Conditions: what each theorem names. -/
import Derived.Test.YtfbaikijnjafbaaGreatDoorCa
namespace Go.Proofs.YtfbaikijnjafbaaGreatDoor
set_option linter.unusedSimpArgs false
set_option linter.unusedVariables false
open Go.RowKit Go.Maps
set_option maxRecDepth 100000

theorem ints_on {w w' : World} {s : Sl Int} (h : IntsL (inW w) w s) (hb : Below w.heap.size w w') : IntsL (inW w') w' s :=
  ⟨(h.1.same (fun k hk => hb.block k hk)).imp (fun k hk => Nat.lt_of_lt_of_le hk hb.size), h.2⟩
def accB (b : Bool) (l : List Int) (i : Nat) : List Int := if b = true then l ++ [(i : Int)] else l
theorem among_acc (b : Bool) (l : List Int) (i : Nat) (h : ∀ x ∈ l, 0 ≤ x ∧ x < (i : Int)) : amongM (accB b l i) i = b := by
  have h0 : amongM l i = false := by
    unfold amongM
    rw [List.any_eq_false]
    intro x hx
    have := h x hx
    simp; omega
  cases b with
  | false => exact h0
  | true => unfold accB; rw [if_pos rfl]; unfold amongM at *; rw [List.any_append, h0]; simp
theorem accB_wf (b : Bool) (l : List Int) (i : Nat) (hi : i ≤ 140737488355328) (h : ∀ x ∈ l, 0 ≤ x ∧ x < (i : Int)) : ∀ x ∈ accB b l i, wf x := by
  intro x hx
  have : 0 ≤ x ∧ x ≤ (i : Int) := by
    unfold accB at hx
    split at hx
    · rcases List.mem_append.1 hx with hx | hx
      · have := h x hx; omega
      · simp at hx; subst hx; omega
    · have := h x hx; omega
  exact WalkArith.wf_i64 (by omega)
theorem accB_len (b : Bool) (l : List Int) (i : Nat) : (accB b l i).length ≤ l.length + 1 := by unfold accB; split <;> simp
theorem accB_lt (b : Bool) (l : List Int) (i : Nat) (h : ∀ x ∈ l, 0 ≤ x ∧ x < (i : Int)) : ∀ x ∈ accB b l i, 0 ≤ x ∧ x < ((i + 1 : Nat) : Int) := by
  intro x hx
  unfold accB at hx
  split at hx
  · rcases List.mem_append.1 hx with hx | hx
    · have := h x hx; omega
    · simp at hx; subst hx; omega
  · have := h x hx; omega
set_option maxHeartbeats 6400000 in
theorem child16_any {ok : Nat → Prop} (P : Prg) (c : Int) (w : World) (hp : PrgL ok w P) (hok : ∀ k, ok k → k < w.heap.size) :
  Calls Tryz.prog 16 #[P.agg, I c] w fun e w' => ∃ s : Sl Int, Hid (s.l = childM P.cls.l c) ∧ IntsL (inW w') w' s ∧ e = .returned s.v ∧ Below w.heap.size w w' := by
  have hb1 : Below w.heap.size w (w.alloc (.cells (prgCells P) 28)) := (Below.refl _ _).alloc (Nat.le_refl _) _
  have hb2 : Below w.heap.size w ((w.alloc (.cells (prgCells P) 28)).alloc (.cells #[] 3)) := hb1.alloc (by simp) _
  have hPb : ((w.alloc (.cells (prgCells P) 28)).alloc (.cells #[] 3)).heap[w.heap.size]? = some (.cells (prgCells P) 28) := by
    rw [Below.heap_alloc _ _ _ (by simp)]
    exact heap_alloc_new w _
  have hz2 : ((w.alloc (.cells (prgCells P) 28)).alloc (.cells #[] 3)).heap.size = w.heap.size + 2 := by simp
  have hPL : PrgL (fun k => k < w.heap.size) ((w.alloc (.cells (prgCells P) 28)).alloc (.cells #[] 3)) P := (hp.same fun q hq => hb2.block q (hok q hq)).imp hok
  have hrow : ((w.alloc (.cells (prgCells P) 28)).alloc (.cells #[] 3)).ownsRow (w.heap.size + 1) 3 1 (.slice (some ⟨w.heap.size + 1, 0, none⟩) 0 0) 0 [] := by
    have := World.ownsRow_made (base := w.heap.size + 1) (e := 3) (size := 1) (w.alloc (.cells (prgCells P) 28)) #[] 0 (by simp) (by unfold maxLen; omega) rfl
    rwa [World.size_alloc] at this
  have hbig : P.cls.l.length ≤ 586406201480 := by have h1 := hp.cls.1; have h2 := hp.cls.2.1; omega
  have HPB := Lib.hid hPb
  have HB := Lib.hid hb2
  have HZ := Lib.hid hz2
  have HPL := Lib.hid hPL
  have HROW := Lib.hid hrow
  have HBIG := Lib.hid hbig
  clear hPb hb2 hz2 hb1 hp hok hPL hrow hbig
  rw [prg_agg]
  generalize hdm : childM P.cls.l c = res
  have HDM := Lib.hid hdm
  clear hdm
  go_enter Tryz.func16, Tryz.ntmps16
  go_upto_region 2 with fail
  change Code.wp _ _ _ _ ((w.alloc (.cells (prgCells P) 28)).alloc (.cells #[] 3))
  generalize ((w.alloc (.cells (prgCells P) 28)).alloc (.cells #[] 3)) = w2 at *
  generalize hN : w.heap.size = N at *
  have HPW := Lib.hid (show ∀ W, Below (N + 1) w2 W → W.cell? ⟨N, 0, none⟩ = some (.slice P.cls.a P.cls.l.length P.cls.cap) from fun W hW => (hW.cell (by show N < N + 1; omega)).trans (cell_of_row w2 N 0 _ _ _ HPB.out))
  have HTW := Lib.hid (show ∀ W, Below (N + 1) w2 W → PrgL (fun k => k < N) W P from fun W hW => HPL.out.same fun q hq => hW.block q (by omega))
  have HBW := Lib.hid (show ∀ W, Below (N + 1) w2 W → Below N w W from fun W hW => HB.out.trans (hW.mono (by omega)))
  cases e0 : inM c P.cls.l.length with
  | false =>
    obtain rfl : [] = res := by have := HDM.out; unfold childM at this; rw [e0] at this; exact this
    obtain ⟨s, hsl, hsv, hsr⟩ := row_slice (l := []) HROW.out (by simp) (fun x h => by cases h)
    have HSV := Lib.hid hsv
    have HSL := Lib.hid hsl
    have HSR := Lib.hid hsr
    clear hsv hsl hsr
    go_wp2_with fail
    go_loopg [5, 6] 1 (fun n v5 v6 wr => v5 = .slice (some ⟨N + 1, 0, none⟩) 0 0 ∧ v6 = .int .i64 (0 : Nat) ∧ wr = w2)
    case atStart => exact ⟨rfl, rfl, rfl⟩
    case round =>
      obtain ⟨rfl, rfl, rfl⟩ := hrel
      have p0 := HPW.out _ (Below.refl _ _)
      have hbg := HBIG.out
      by_cases hz : 0 < P.cls.l.length
      · have d2 : (((0 : Nat) : Int) < (P.cls.l.length : Int)) := by omega
        go_wp2_with (first | (go_at_call 40; refine (in54_any _ _ _).mono ?_; rintro e w9 ⟨rfl, rfl⟩; dsimp only; rw [e0]))
        go_ret
        exact ⟨s, HSL, HSR.out, by rw [← HSV.out]; rfl, (by first | exact HBW.out _ (Below.refl _ _) | (rw [hN]; exact HBW.out _ (Below.refl _ _)))⟩
      · have d2 : ¬ (((0 : Nat) : Int) < (P.cls.l.length : Int)) := by omega
        go_wp2_with (first | (go_at_call 40; refine (in54_any _ _ _).mono ?_; rintro e w9 ⟨rfl, rfl⟩; dsimp only; rw [e0]))
        go_ret
        exact ⟨s, HSL, HSR.out, by rw [← HSV.out]; rfl, (by first | exact HBW.out _ (Below.refl _ _) | (rw [hN]; exact HBW.out _ (Below.refl _ _)))⟩
  | true =>
    have HRES : Hid (childL c P.cls.l 0 = res) := Lib.hid (by have := HDM.out; unfold childM at this; rw [if_pos e0] at this; exact this)
    obtain ⟨i0, hi0, hz0, hz1, hzb⟩ := info_parts info3c
    have HWF : Hid (∀ x ∈ res, wf x) := Lib.hid (fun x hx => childL_wf c P.cls.l 0 (by have := HBIG.out; omega) x (by rw [HRES.out]; exact hx))
    go_wp2_with fail
    clear HDM HB HPB
    go_loopg [5, 6] (P.cls.l.length + 1) (fun n v5 v6 wr => ∃ i : Nat, ∃ acc : List Int, i ≤ P.cls.l.length ∧ v6 = .int .i64 i ∧ Hid (n = P.cls.l.length + 1 - i) ∧ Hid (acc ++ childL c (P.cls.l.drop i) i = res) ∧ Hid (∀ x ∈ acc, 0 ≤ x ∧ x < (i : Int)) ∧ Hid (acc.length ≤ i) ∧ Hid (wr.ownsRow (N + 1) 3 1 v5 acc.length (acc.map I)) ∧ Hid (Below (N + 1) w2 wr))
    case atStart => exact ⟨0, [], by omega, rfl, rfl, HRES.out, (Lib.hid (fun x h => by cases h)), Nat.zero_le _, HROW.out, Below.refl _ _⟩
    case round =>
      obtain ⟨i, acc, hi, rfl, HN, HD, HE, HQ, HR, HW⟩ := hrel
      have hbg := HBIG.out
      have p0 := HPW.out _ HW.out
      by_cases hlt : i < P.cls.l.length
      · have d2 : ((i : Int) < (P.cls.l.length : Int)) := by omega
        obtain ⟨b, o, ha, hokb, hcs⟩ := sl_at (HTW.out _ HW.out).cls (by omega)
        have hb0 : ∀ W, Below (N + 1) w2 W → W.cell? ⟨b, o + i * 13 + 5, none⟩ = some (.slice P.cls.l[i].pars.a P.cls.l[i].pars.l.length P.cls.l[i].pars.cap) := fun W hW => by
          obtain ⟨b3, o3, ha3, _, hc3⟩ := sl_at (HTW.out _ hW).cls (by omega)
          rw [ha] at ha3
          obtain ⟨rfl, rfl⟩ : b = b3 ∧ o = o3 := by simpa using ha3
          exact (cls_cells0 (hc3 i hlt)).2.2.2.2.2.1
        have hpa : ∀ W, Below (N + 1) w2 W → TysL (fun q => q < N) W P.cls.l[i].pars := fun W hW => ((HTW.out _ hW).clsL _ (List.getElem_mem hlt)).2.2.2.1
        have HCB := Lib.hid hb0
        have HPA := Lib.hid hpa
        have HD2 := HD.out
        rw [List.drop_eq_getElem_cons hlt, childL] at HD2
        have HD2 := Lib.hid HD2
        have HPW2 : Hid (∀ W, Below (N + 1) w2 W → W.cell? ⟨N, 0, none⟩ = some (.slice (some ⟨b, o, none⟩) P.cls.l.length P.cls.cap)) := Lib.hid (fun W hW => by have := HPW.out W hW; rwa [ha] at this)
        clear hcs hokb HD hb0 hpa ha p0
        have p0 := HPW2.out _ HW.out
        generalize P.cls.l[i].pars = par at *
        obtain ⟨ra, rc, rl⟩ := par
        dsimp only at HCB HPA HD2
        have hlr : rl.length ≤ 140737488355328 := by have h1 := (HPA.out _ HW.out).1.1; have h2 := (HPA.out _ HW.out).1.2.1; dsimp only at h1 h2; omega
        have HLR := Lib.hid hlr
        generalize hbr : hasPar c rl = br at *
        have HBR := Lib.hid hbr
        clear hbr hlr
        go_wp2_with (first | (go_at_call 40; refine (in54_any _ _ _).mono ?_; rintro e w9 ⟨rfl, rfl⟩; dsimp only; rw [e0]))
        clear p0
        go_loopg [5, 7] (rl.length + 1) (fun n v5 v wx => ∃ j : Nat, ∃ b : Bool, j ≤ rl.length ∧ v = .int .i64 j ∧ Hid (n = rl.length + 1 - j) ∧ Hid ((b || hasPar c (rl.drop j)) = br) ∧ Hid (wx.ownsRow (N + 1) 3 1 v5 (accB b acc i).length ((accB b acc i).map I)) ∧ Hid (Below (N + 1) w2 wx))
        case atStart => exact ⟨0, false, by omega, rfl, rfl, HBR.out, HR.out, HW.out⟩
        case round =>
          clear HR HW
          obtain ⟨j, bb, hj, rfl, HNJ, HDJ, HR, HW⟩ := hrel
          have hlr := HLR.out
          have p0 := HPW2.out _ HW.out
          have pc5 := HCB.out _ HW.out
          have hwz := HW.out.size
          have hz2 := HZ.out
          by_cases hjt : j < rl.length
          · have d3 : ((j : Int) < (rl.length : Int)) := by omega
            obtain ⟨b2, o2, ha2, hok2, hcs2⟩ := sl_at (HPA.out _ HW.out).1 (by show 0 < rl.length; omega)
            dsimp only at ha2
            subst ha2
            obtain ⟨y0, y1, y2, y3, y4⟩ := tys_cells (hcs2 j hjt)
            have HD3 := HDJ.out
            rw [List.drop_eq_getElem_cons hjt] at HD3
            have HD3 : Hid ((bb || (isOfB rl[j] c || hasPar c (rl.drop (j + 1)))) = br) := Lib.hid HD3
            have hb2lt : b2 < wr.heap.size := by omega
            have hb2ne : b2 ≠ wr.heap.size := by omega
            have hblt : b < wr.heap.size := (cell_spot pc5).2
            obtain ⟨s, hsl, rfl, hsi⟩ := row_slice HR.out (by have := accB_len bb acc i; have := HQ.out; omega) (accB_wf bb acc i (by omega) HE.out)
            clear hcs2 hok2 HDJ
            dsimp only at y0 y1 y2 y3 y4
            generalize hx : rl[j] = x at *
            obtain ⟨xk, xs, xn, xm, ⟨xa, xc, xl⟩⟩ := x
            dsimp only [Ty.k, Ty.s, Ty.nm, Ty.n, Ty.args, Sl.v] at y0 y1 y2 y3 y4
            have hY : ∀ j, (wr.alloc (.cells #[I xk, I xs, .string xn, I xm, .slice xa xl.length xc] 60)).cell? ⟨wr.heap.size, j, none⟩ = #[I xk, I xs, .string xn, I xm, .slice xa xl.length xc][j]? := fun j => World.cell?_alloc_new wr #[I xk, I xs, .string xn, I xm, .slice xa xl.length xc] 60 j
            have hWy : Below (N + 1) w2 (wr.alloc (.cells #[I xk, I xs, .string xn, I xm, .slice xa xl.length xc] 60)) := HW.out.alloc (by omega) _
            have hyz : (wr.alloc (.cells #[I xk, I xs, .string xn, I xm, .slice xa xl.length xc] 60)).heap.size = wr.heap.size + 1 := by simp
            have hRy := HR.out.alloc (.cells #[I xk, I xs, .string xn, I xm, .slice xa xl.length xc] 60)
            have hsy : IntsL (fun _ => True) (wr.alloc (.cells #[I xk, I xs, .string xn, I xm, .slice xa xl.length xc] 60)) s := ⟨(ints_on hsi ((Below.refl _ _).alloc (Nat.le_refl _) _)).1.imp (fun _ _ => trivial), hsi.2⟩
            have HAM := Lib.hid (show ∀ b0, amongM (accB bb acc i) i = b0 → Calls Tryz.prog 36 #[s.v, I i] (wr.alloc (.cells #[I xk, I xs, .string xn, I xm, .slice xa xl.length xc] 60)) fun e w' => e = .returned (.bool b0) ∧ (wr.alloc (.cells #[I xk, I xs, .string xn, I xm, .slice xa xl.length xc] 60)) = w' from fun b0 hb0 => by have := among50_any s i (wr.alloc (.cells #[I xk, I xs, .string xn, I xm, .slice xa xl.length xc] 60)) hsy; rwa [hsl, hb0] at this)
            go_upto_region 9 with fail
            change Code.wp _ _ _ _ (wr.alloc (.cells #[I xk, I xs, .string xn, I xm, .slice xa xl.length xc] 60))
            generalize (wr.alloc (.cells #[I xk, I xs, .string xn, I xm, .slice xa xl.length xc] 60)) = wy at *
            have z0 : wy.cell? ⟨wr.heap.size, 0, none⟩ = some (I xk) := hY 0
            have z1 : wy.cell? ⟨wr.heap.size, 1, none⟩ = some (I xs) := hY 1
            have HWY := Lib.hid hWy
            have HYZ := Lib.hid hyz
            have HRY := Lib.hid hRy
            have HSL := Lib.hid hsl
            have HIS := Lib.hid (show isOfB (Ty.mk xk xs xn xm ⟨xa, xc, xl⟩) c = (xk == 10 && xs == c) from rfl)
            clear hY y0 y1 y2 y3 y4 hWy hyz hx hRy HR hsy hsl hsi p0 pc5
            cases e1 : (xk == 10) with
            | false =>
              have HD4 : Hid ((bb || hasPar c (rl.drop (j + 1))) = br) := Lib.hid (by have := HD3.out; rw [HIS.out, e1, Bool.false_and, Bool.false_or] at this; exact this)
              go_wp2_with (first | (go_at_call 36; refine (HAM.out _ (among_acc _ acc i HE.out)).mono ?_; rintro e w5 ⟨rfl, rfl⟩; dsimp only))
              go_roundg (rl.length + 1 - (j + 1))
              case measure => have := HNJ.out; omega
              case rel => exact ⟨j + 1, bb, by omega, by first | go_num | (rw [IntWalk.wrap64_in _ (by omega)]; go_num), rfl, HD4.out, HRY.out, HWY.out⟩
            | true =>
              cases e2 : (xs == c) with
              | false =>
                have HD4 : Hid ((bb || hasPar c (rl.drop (j + 1))) = br) := Lib.hid (by have := HD3.out; rw [HIS.out, e2, Bool.and_false, Bool.false_or] at this; exact this)
                go_wp2_with (first | (go_at_call 36; refine (HAM.out _ (among_acc _ acc i HE.out)).mono ?_; rintro e w5 ⟨rfl, rfl⟩; dsimp only))
                go_roundg (rl.length + 1 - (j + 1))
                case measure => have := HNJ.out; omega
                case rel => exact ⟨j + 1, bb, by omega, by first | go_num | (rw [IntWalk.wrap64_in _ (by omega)]; go_num), rfl, HD4.out, HRY.out, HWY.out⟩
              | true =>
                obtain rfl : true = br := by have := HD3.out; rw [HIS.out, e1, e2, Bool.and_true, Bool.true_or, Bool.or_true] at this; exact this
                cases bb with
                | true =>
                  go_wp2_with (first | (go_at_call 36; refine (HAM.out _ (among_acc _ acc i HE.out)).mono ?_; rintro e w5 ⟨rfl, rfl⟩; dsimp only))
                  go_roundg (rl.length + 1 - (j + 1))
                  case measure => have := HNJ.out; omega
                  case rel => exact ⟨j + 1, true, by omega, by first | go_num | (rw [IntWalk.wrap64_in _ (by omega)]; go_num), rfl, (Lib.hid (by rw [Bool.true_or])), HRY.out, HWY.out⟩
                | false =>
                  have hacc := HQ.out
                  have hyw := HWY.out.size
                  have HRZ : Hid (wy.ownsRow (N + 1) 3 1 s.v acc.length (acc.map I)) := Lib.hid HRY.out
                  go_wp2_with (first
                    | (go_at_call 36; refine (HAM.out _ (among_acc _ acc i HE.out)).mono ?_; rintro e w5 ⟨rfl, rfl⟩; dsimp only)
                    | (at_builtin; refine wpList_append_own _ rfl _ _ 44 rfl (N + 1) 3 i0 (.int .i64 0) 1 8 Tryz.underlying44 hi0 hz0 hz1 hzb rfl (by decide) _ _ _ rfl (HRZ.out.alloc _) ⟨wy.heap.size, 0, none⟩ 1 1 [I i] rfl rfl (cell_one_new _ _ _) (by intro u hu; simp at hu; subst hu; rfl) (by unfold maxLen; omega) (by omega) (by simp; omega) ?_; intro v' w4 hown' hgrow _; have HO4 := Lib.hid hown'; have HW4 := Lib.hid ((HWY.out.alloc (by omega) _).grown hgrow (by simp; omega) (fun q e => (HRZ.out.lt q e).1)); clear hown' hgrow))
                  go_roundg (rl.length + 1 - (j + 1))
                  case measure => have := HNJ.out; omega
                  case rel => exact ⟨j + 1, true, by omega, by first | go_num | (rw [IntWalk.wrap64_in _ (by omega)]; go_num), rfl, (Lib.hid (by rw [Bool.true_or])), (Lib.hid (by unfold accB; rw [if_pos rfl, List.length_append, map_snoc]; exact HO4.out)), HW4.out⟩
          · obtain rfl : j = rl.length := by omega
            obtain rfl : bb = br := by have := HDJ.out; rw [List.drop_length] at this; simpa [hasPar] using this
            have HD4 : Hid (accB bb acc i ++ childL c (P.cls.l.drop (i + 1)) (i + 1) = res) := Lib.hid (by
              have := HD2.out
              unfold accB
              cases bb with
              | false => rw [if_neg (by simp)] at this ⊢; exact this
              | true => rw [if_pos rfl] at this ⊢; rw [List.append_assoc]; exact this)
            go_wp2_with fail
            go_roundg (P.cls.l.length + 1 - (i + 1))
            case measure => have := HN.out; omega
            case rel => exact ⟨i + 1, accB bb acc i, by omega, by first | go_num | (rw [IntWalk.wrap64_in _ (by omega)]; go_num), rfl, HD4.out, (Lib.hid (accB_lt bb acc i HE.out)), (Lib.hid (by have := HQ.out; have := accB_len bb acc i; omega)), HR.out, HW.out⟩
      · obtain rfl : i = P.cls.l.length := by omega
        have HD3 := HD.out
        rw [List.drop_length, childL, List.append_nil] at HD3
        subst HD3
        have hacc := HQ.out
        obtain ⟨s, hsl, rfl, hsr⟩ := row_slice HR.out (by omega) HWF.out
        have HS := Lib.hid hsr
        have HSL := Lib.hid hsl
        clear hsr hsl
        go_wp2_with fail
        go_ret
        exact ⟨s, HSL, HS.out, rfl, by rw [hN]; exact HBW.out _ HW.out⟩
end Go.Proofs.YtfbaikijnjafbaaGreatDoor
