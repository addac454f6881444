/- The contract of run. -/
import Derived.Test.YtcdidmohgcegmaaDoorLyl
namespace Go.Proofs.YtcdidmohgcegmaaDoor
open Go.RowKit
set_option maxRecDepth 100000

theorem set_alloc (w : World) (g i : Nat) (v : Value) (o : Obj) (h : g < w.heap.size) : (w.setCell ⟨g, i, none⟩ v).alloc o = (w.alloc o).setCell ⟨g, i, none⟩ v := by
  exact (World.setCell_alloc_past o g i v h).symm
def stepA (l : List Tok) (y : Ly) (i : Nat) : Except Flt Ly :=
  if 0 < i ∧ (tk l (i - 1)).line < (tk l i).line then
    (if y.top.brk = true then lendM l { y with margin := (tk l i).col } i else .ok { y with margin := (tk l i).col })
  else .ok y
def stepB (l : List Tok) (y : Ly) (i : Nat) : Except Flt Ly :=
  match bracketM l y i with
  | .error f => .error f
  | .ok z => .ok { z with out := z.out ++ [tk l i] }
def roundsK : Nat → List Tok → Ly → Nat → Except Flt Ly
  | 0, _, y, _ => .ok y
  | f + 1, l, y, i =>
    if i < l.length then
      (match stepA l y i with
      | .error e => .error e
      | .ok y1 => match stepB l y1 i with
        | .error e => .error e
        | .ok y2 => roundsK f l y2 (i + 1))
    else stopM l y
def startLy (l : List Tok) : Ly := ⟨[], [⟨⟨#[]⟩, (tk l 0).col, 0⟩], (tk l 0).col⟩
theorem startLy_inv (l : List Tok) : YInv (4 * 0 + 1) (startLy l) := by
  refine ⟨⟨_, [], rfl, ?_⟩, by simp [startLy], by simp [startLy]⟩
  show ((⟨#[]⟩ : ByteArray).toList == []) = true
  decide +kernel
theorem LyAt.toks {w : World} {g k cap : Nat} {l : List Tok} {y : Ly} (h : LyAt w g (.slice (some ⟨k, 0, none⟩) l.length cap) l y) (h0 : 0 < l.length) : k < w.heap.size ∧ ∀ i, i < l.length → TokIn w k i (tk l i) := by
  obtain ⟨ov, rv, hx⟩ := h
  obtain ⟨k', cap', hv, hk, hin⟩ := in_form hx.inn h0
  injection hv with e1
  injection e1 with e1
  injection e1 with e1
  subst e1
  exact ⟨hk, hin⟩
theorem dis_pos {u t : Tok} (h : disM u t = false) : u.pos ≤ t.pos := by
  unfold disM at h
  simp only [Bool.or_eq_false_iff, decide_eq_false_iff_not] at h
  omega
def lrunM (l : List Tok) : Except Flt (List Tok) :=
  match chkM l with
  | some f => .error f
  | none => if l.length = 0 then .ok [⟨14, ⟨#[]⟩, 0, 0, 0⟩] else
    match roundsK (l.length + 1) l (startLy l) 0 with
    | .error f => .error f
    | .ok y => .ok y.out
/-- How run ends. -/
def LROut (w : World) (g : Nat) (o : Except Flt (List Tok)) (e : Ending) (w' : World) : Prop :=
  match o with
  | .ok out => ∃ lv, e = .returned lv ∧ w'.ownsRow 0 34 5 lv out.length (out.flatMap Tok.cells) ∧ KeepA g w w'
  | .error f => e = .panicked [{ v := .iface 28 (fltV f), recovered := false }] ∧ KeepA g w w'
/-- The numbers of the tokens are small. -/
def Small (l : List Tok) : Prop := ∀ i, (tk l i).pos < 900000 ∧ (tk l i).line < 900000 ∧ (tk l i).text.size < 900000

attribute [local go_sem ↓ high] builtin_app
set_option maxRecDepth 100000 in
set_option maxHeartbeats 3200000 in
theorem run_any {w : World} {g : Nat} {iv : Value} {l : List Tok} (h : LyAt w g iv l ⟨[], [], 0⟩) (hg : GlA w g) (hl : l.length ≤ 1000000) (hs : Small l) :
    Calls Tryd.prog 47 #[.pointer (some ⟨g, 0, none⟩)] w (LROut w g (lrunM l)) := by
  generalize hm : lrunM l = res
  unfold lrunM at hm
  have HM := Lib.hid hm
  clear hm
  have HY := Lib.hid h
  obtain ⟨ov, rv, hx⟩ := h
  obtain ⟨A, cap, hiv, hin⟩ := in_form0 hx.inn
  subst hiv
  obtain ⟨c0, _, _, _⟩ := hx.cells
  have hlt := hx.lt
  have HI := Lib.hid hin
  have HX := Lib.hid hx
  clear hin hx
  go_enter Tryd.func47, Tryd.ntmps47
  go_wp2_with fail
  refine (check_list_any HX.out.inn hl).mono ?_
  rintro e w1 h1
  generalize hc : chkM l = oc at h1
  have HC := Lib.hid hc
  clear hc
  cases oc with
  | some f =>
    obtain rfl : Except.error f = res := by have := HM.out; rw [HC.out] at this; exact this
    obtain ⟨rfl, hb1⟩ := h1
    go_wp2_with fail
    exact ⟨rfl, rfl, KeepA.of_below hlt hb1⟩
  | none =>
    obtain ⟨rfl, hb1⟩ := h1
    have HY1 := Lib.hid (HY.out.of_below hb1)
    have HK1 := Lib.hid (KeepA.of_below hlt hb1)
    have hlt1 := HY1.out.lt
    have d0 : w1.cell? ⟨g, 0, none⟩ = some (.slice A l.length cap) := by obtain ⟨_, _, hy⟩ := HY1.out; exact hy.cells.1
    have HM1 : Hid ((if l.length = 0 then Except.ok [⟨14, ⟨#[]⟩, 0, 0, 0⟩] else
      match roundsK (l.length + 1) l (startLy l) 0 with
      | .error f => Except.error f
      | .ok y => Except.ok y.out) = res) := Lib.hid (by have := HM.out; rw [HC.out] at this; exact this)
    clear HM
    by_cases h0 : l.length = 0
    · obtain rfl : Except.ok [⟨14, ⟨#[]⟩, 0, 0, 0⟩] = res := by have := HM1.out; rw [if_pos h0] at this; exact this
      have z0 : ((l.length : Int) == 0) = true := beq_iff_eq.2 (by omega)
      clear h0 HM1
      clear hb1
      go_wp2_with fail
      go_ret
      refine ⟨_, rfl, ?_, HK1.out.alloc hlt1 _⟩
      exact ⟨rfl, .inr ⟨w1.heap.size, 1, _, rfl, Nat.zero_le _, heap_alloc_new w1 _, Nat.le_refl _, by unfold maxLen; omega, rfl, rfl⟩⟩
    · have z0 : ((l.length : Int) == 0) = false := beq_eq_false_iff_ne.2 (by omega)
      obtain ⟨k, rfl, hk, hin0⟩ := HI.out (by omega)
      have hk1 : k < w1.heap.size := Nat.lt_of_lt_of_le hk hb1.size
      obtain ⟨t0, t1, t2, t3, t4⟩ := (hin0 0 (by omega)).below hb1 hk
      have p0 : (0 : Int) < (l.length : Int) := by omega
      simp only [Nat.zero_mul, Nat.zero_add] at t0 t1 t2 t3 t4
      clear hb1
      obtain ⟨ov1, rv1, hx1⟩ := HY1.out
      obtain ⟨_, _, d2, d3⟩ := hx1.cells
      have f2 := hx1.frozen 2
      have f3 := hx1.frozen 3
      have HF1 := Lib.hid (hx1.first ⟨⟨#[]⟩, (tk l 0).col, 0⟩)
      clear hx1
      have HS : Hid (LyAt (((w1.setCell ⟨g, 2, none⟩ (.slice (some ⟨w1.heap.size, 0, none⟩) 1 1)).setCell ⟨g, 3, none⟩ (.int .i64 (tk l 0).col)).alloc (.cells #[.string ⟨#[]⟩, I (tk l 0).col, .int .i64 0] 85)) g (.slice (some ⟨k, 0, none⟩) l.length cap) l (startLy l) ∧
          KeepA g w (((w1.setCell ⟨g, 2, none⟩ (.slice (some ⟨w1.heap.size, 0, none⟩) 1 1)).setCell ⟨g, 3, none⟩ (.int .i64 (tk l 0).col)).alloc (.cells #[.string ⟨#[]⟩, I (tk l 0).col, .int .i64 0] 85))) := by
        rw [set_alloc _ _ _ _ _ (by simpa [World.setCell] using hlt1), set_alloc _ _ _ _ _ hlt1]
        exact Lib.hid ⟨⟨_, _, HF1.out.1.margin (tk l 0).col⟩, (HK1.out.trans HF1.out.2).margin _⟩
      have HM2 : Hid ((match roundsK (l.length + 1) l (startLy l) 0 with
        | .error f => Except.error f
        | .ok y => Except.ok y.out) = res) := Lib.hid (by have := HM1.out; rw [if_neg h0] at this; exact this)
      have HG := Lib.hid hg
      have HSM := Lib.hid hs
      have H0 := Lib.hid h0
      clear HM1 HF1 h0 hg hs c0
      go_wp2_with fail
      clear t0 t1 t2 t3 t4 p0
      go_loopg [45] (l.length + 1) (fun n v wr => ∃ (i : Nat) (z : Ly), i ≤ l.length ∧ v = .int .i64 i ∧ Hid (n = l.length + 1 - i) ∧ Hid (YInv (4 * i + 1) z) ∧
        Hid (∃ f, l.length < f + i ∧ (match roundsK f l z i with
          | .error f => Except.error f
          | .ok y => Except.ok y.out) = res) ∧ Hid (LyAt wr g (.slice (some ⟨k, 0, none⟩) l.length cap) l z) ∧ Hid (KeepA g w wr))
      case atStart => exact ⟨0, startLy l, by omega, rfl, rfl, startLy_inv l, ⟨_, by omega, HM2.out⟩, HS.out.1, HS.out.2⟩
      case round =>
        obtain ⟨i, z, hi, rfl, HN, HV, HF, HZ, HK⟩ := hrel
        clear HS HM2
        obtain ⟨hl2, hck⟩ := chkK_none (l.length + 1) l 0 HC.out (Nat.zero_le _) (by omega)
        have HCK := Lib.hid hck
        clear hck
        have hlz := HZ.out.lt
        by_cases hlt2 : i < l.length
        · have d1 : decide ((i : Int) < (l.length : Int)) = true := decide_eq_true (by omega)
          have d2' : ((i : Int) < (l.length : Int)) := by omega
          obtain ⟨f, hf, HC2⟩ : ∃ f, l.length ≤ f + i ∧ Hid ((match (match stepA l z i with
              | .error e => Except.error e
              | .ok y1 => match stepB l y1 i with
                | .error e => Except.error e
                | .ok y2 => roundsK f l y2 (i + 1)) with
              | .error f => Except.error f
              | .ok y => Except.ok y.out) = res) := by
            obtain ⟨f, hf, hc⟩ := HF.out
            cases f with
            | zero => omega
            | succ f => exact ⟨f, by omega, by rw [roundsK, if_pos hlt2] at hc; exact hc⟩
          clear HF
          obtain ⟨hkr, hin⟩ := HZ.out.toks (by omega)
          obtain ⟨t0, t1, t2, t3, t4⟩ := hin i hlt2
          have HB0 := Lib.hid (show Sit w (wr.alloc (tokO (tk l i))) g (.slice (some ⟨k, 0, none⟩) l.length cap) l z wr.heap.size (tokO (tk l i)) from ⟨HZ.out.alloc _, HZ.out.apart_new _, heap_alloc_new wr _, HK.out.alloc hlz _⟩)
          have HIN := Lib.hid hin
          have c0r : wr.cell? ⟨g, 0, none⟩ = some (.slice (some ⟨k, 0, none⟩) l.length cap) := by obtain ⟨_, _, hy⟩ := HZ.out; exact hy.cells.1
          clear hin
          go_upto_region 9 with fail
          go_cut [65] from 46 to 90 (fun s65 wx => s65 = .bool (decide (0 < i ∧ (tk l (i - 1)).line < (tk l i).line)) ∧ Hid (Sit w wx g (.slice (some ⟨k, 0, none⟩) l.length cap) l z wr.heap.size (tokO (tk l i))))
          case first =>
            by_cases h0 : 0 < i
            · obtain ⟨_, _, _, u3, _⟩ := HIN.out (i - 1) (by omega)
              have HD := Lib.hid (show decide ((tk l (i - 1)).line < (tk l i).line) = decide (0 < i ∧ (tk l (i - 1)).line < (tk l i).line) by simp [h0])
              have g1 : decide (0 < i) = true := decide_eq_true h0
              have g2 : IntKind.i64.wrap ((i : Int) - 1) = ((i - 1 : Nat) : Int) := by rw [show ((i : Int) - 1) = ((i - 1 : Nat) : Int) by omega]; exact IntWalk.i64_in _ (by omega)
              have g3 : (((i - 1 : Nat) : Int) < (l.length : Int)) := by omega
              clear h0
              go_quiet (fail)
              go_wp2_with fail
              go_meet
              exact ⟨congrArg Value.bool HD.out, HB0.out.drewN _⟩
            · have HD := Lib.hid (show false = decide (0 < i ∧ (tk l (i - 1)).line < (tk l i).line) by simp [h0])
              have g1 : decide (0 < i) = false := decide_eq_false h0
              clear h0
              go_quiet (fail)
              go_wp2_with fail
              go_meet
              exact ⟨congrArg Value.bool HD.out, HB0.out.drewN _⟩
          case rest =>
            obtain ⟨rfl, HW⟩ := hcut
            clear HB0 c0r t0 t1 t2 t3 t4
            go_upto_if 65 with fail
            go_cut [] from 46 to 90 (fun wx => ∃ y1, Hid (stepA l z i = .ok y1) ∧ Hid (YInv (4 * i + 3) y1) ∧ Hid (Sit w wx g (.slice (some ⟨k, 0, none⟩) l.length cap) l y1 wr.heap.size (tokO (tk l i))))
            case first =>
              by_cases hA : 0 < i ∧ (tk l (i - 1)).line < (tk l i).line
              · rw [decide_eq_true hA]
                have hi0 := hA.1
                obtain ⟨b0, b1, b2, b3, b4⟩ := box_cells' HW.out.box
                have c3w : wc.cell? ⟨g, 3, none⟩ = some (I z.margin) := by obtain ⟨_, _, hy⟩ := HW.out.ly; exact hy.cells.2.2.2
                have f3w : wc.frozen? ⟨g, 3, none⟩ = false := by obtain ⟨_, _, hy⟩ := HW.out.ly; exact hy.frozen 3
                have HWM := Lib.hid (HW.out.step (HW.out.ly.margin (tk l i).col) ((KeepA.refl g wc).margin (I (tk l i).col)))
                have HVM := Lib.hid (HV.out.margin (tk l i).col)
                have hp1 : 0 < z.regs.length := HV.out.pos
                have hp2 : z.regs.length ≤ 64 := HV.out.most
                have hp3 : z.out.length + z.regs.length ≤ 100000 := by have := HV.out.len; omega
                go_wp2_with (go_at_call 59; refine (innermost_agg (y := { z with margin := (tk l i).col }) HWM.out.ly hp1 (by show z.regs.length < 1000; omega)).mono ?_; rintro e w' ⟨rfl, n, rfl⟩)
                refine (brk_any z.top _).mono ?_
                rintro e w' ⟨rfl, rfl⟩
                have HX := Lib.hid (((HWM.out.alloc (rgO z.top)).drewN n).alloc (rgO z.top))
                by_cases hbr : z.top.brk = true
                · have HS1 := Lib.hid (show stepA l z i = lendM l { z with margin := (tk l i).col } i by unfold stepA; rw [if_pos hA, if_pos hbr])
                  rw [hbr]
                  clear hA hbr
                  go_wp2_with fail
                  refine (lend_any i HX.out.ly (HG.out.keep HX.out.keep) hp1 hp2 (by show z.out.length + z.regs.length ≤ 1000000; omega) hlt2 hi0 hl (by have := (HCK.out (i - 1) (by omega) (by omega)).1; omega) (by have := (HSM.out (i + 1)).1; omega) (fun h => dis_pos (by have := (HCK.out (i + 1) (by omega) h).2 (by omega); simpa using this)) (by have := (HSM.out i).2.2; omega)).mono ?_
                  rintro e w3 h3
                  generalize hbm : lendM l { z with margin := (tk l i).col } i = bm at h3
                  have HBM := Lib.hid hbm
                  clear hbm
                  cases bm with
                  | error fl =>
                    obtain rfl : Except.error fl = res := by have := HC2.out; rw [HS1.out, HBM.out] at this; exact this
                    obtain ⟨rfl, k3⟩ := h3
                    go_wp2_with fail
                    exact ⟨rfl, rfl, HX.out.keep.trans k3⟩
                  | ok y1 =>
                    obtain ⟨rfl, h3, k3⟩ := h3
                    have HX1 := Lib.hid (HX.out.step h3 k3)
                    have HV1 := Lib.hid (lendM_inv HBM.out HVM.out)
                    clear h3 k3
                    go_wp2_with fail
                    go_meet
                    exact ⟨y1, Lib.hid (by rw [HS1.out, HBM.out]), Lib.hid (HV1.out.more (by omega)), HX1.out⟩
                · have hbr' : z.top.brk = false := by simpa using hbr
                  have HS1 := Lib.hid (show stepA l z i = .ok { z with margin := (tk l i).col } by unfold stepA; rw [if_pos hA, if_neg hbr])
                  rw [hbr']
                  clear hA hbr hbr'
                  go_wp2_with fail
                  go_meet
                  exact ⟨_, Lib.hid HS1.out, Lib.hid (HVM.out.more (by omega)), HX.out⟩
              · rw [decide_eq_false hA]
                have HS1 := Lib.hid (show stepA l z i = .ok z by unfold stepA; rw [if_neg hA])
                clear hA
                go_wp2_with fail
                go_meet
                exact ⟨z, Lib.hid HS1.out, Lib.hid (HV.out.more (by omega)), HW.out⟩
            case rest =>
              obtain ⟨y1, HA1, HV1, HW1⟩ := hcut
              have HC3 : Hid ((match (match stepB l y1 i with
                | .error e => Except.error e
                | .ok y2 => roundsK f l y2 (i + 1)) with
                | .error f => Except.error f
                | .ok y => Except.ok y.out) = res) := Lib.hid (by have := HC2.out; rw [HA1.out] at this; exact this)
              clear HW HA1 HC2
              go_wp2_with fail
              refine (bracket_any i HW1.out.ly HV1.out.pos HV1.out.most (by have := HV1.out.len; omega) hlt2 hl).mono ?_
              rintro e w3 h3
              generalize hbm : bracketM l y1 i = bm at h3
              have HBM := Lib.hid hbm
              clear hbm
              cases bm with
              | error fl =>
                obtain rfl : Except.error fl = res := by have := HC3.out; unfold stepB at this; rw [HBM.out] at this; exact this
                obtain ⟨rfl, k3⟩ := h3
                go_wp2_with fail
                exact ⟨rfl, rfl, HW1.out.keep.trans k3⟩
              | ok y2 =>
                obtain ⟨rfl, h3, k3⟩ := h3
                have HV2 := Lib.hid (bracketM_inv HBM.out HV1.out)
                have HC4 : Hid ((match roundsK f l { y2 with out := y2.out ++ [tk l i] } (i + 1) with
                  | .error f => Except.error f
                  | .ok y => Except.ok y.out) = res) := Lib.hid (by have := HC3.out; unfold stepB at this; rw [HBM.out] at this; exact this)
                have HW3 := Lib.hid (HW1.out.step h3 k3)
                clear h3 k3 HW1 HC3 HBM
                have h8 : y2.out.length ≤ 900000 := by have := HV2.out.len; omega
                obtain ⟨b0, b1, b2, b3, b4⟩ := box_cells' HW3.out.box
                have HKZ := Lib.hid HW3.out.keep
                have hlw := HW3.out.ly.lt
                obtain ⟨ov', rv', hz⟩ := HW3.out.ly
                have HA := Lib.hid ((hz.alloc (.cells #[I (tk l i).kind, .string (tk l i).text, I (tk l i).pos, I (tk l i).line, I (tk l i).col] 34)).drew)
                obtain ⟨_, c1, _, _⟩ := hz.cells
                obtain ⟨_, p1, _, _⟩ := HA.out.cells
                have q1f := HA.out.frozen 1
                obtain ⟨i0, hi0, hz0, hz1, hz2⟩ := info_parts info32'
                have HI32 := Lib.hid (And.intro hi0 (And.intro hz0 (And.intro hz1 hz2)))
                clear hi0 hz0 hz1 hz2
                obtain ⟨gg, cap2, w5, hr, hown1, hgrow, hat, hlt5⟩ := run_append_lies (P := Tryd.prog) ((w3.alloc (.cells #[I (tk l i).kind, .string (tk l i).text, I (tk l i).pos, I (tk l i).line, I (tk l i).col] 34)).drew) 25 25 0 34 i0 _ 5 48 Tryd.underlying25 HI32.out.1 HI32.out.2.1 HI32.out.2.2.1 HI32.out.2.2.2 rfl (by omega) ov' y2.out.length (y2.out.flatMap Tok.cells) HA.out.out
                      ⟨w3.heap.size, 0, none⟩ 1 1 [I (tk l i).kind, .string (tk l i).text, I (tk l i).pos, I (tk l i).line, I (tk l i).col] (by rfl) (World.news_of_block (cs := #[I (tk l i).kind, .string (tk l i).text, I (tk l i).pos, I (tk l i).line, I (tk l i).col]) (t := 34) (fr := (0, 0)) (heap_alloc_new w3 _)) (by simp [Value.oneCell'])
                      (by omega) (by unfold maxLen; omega) (by omega) (by simp) (w3.heap.size + 1) (by simp)
                have q1 : w5.cell? ⟨g, 1, none⟩ = some ov' := (hgrow.cell_far _ (by simp; omega) (Ne.symm hz.og)).trans p1
                have q1f : w5.frozen? ⟨g, 1, none⟩ = false := (hgrow.frozen_far _ (by simp; omega) (Ne.symm hz.og)).trans q1f
                have HP := Lib.hid (HA.out.pushOut (t := tk l i) hgrow hown1 (hat.imp_right fun e => by simpa using e))
                clear hown1 hgrow hat hz
                have hra : (App #[25, 25] 25 #[ov', .slice (some ⟨w3.heap.size, 0, none⟩) 1 1]).run Tryd.prog ((w3.alloc (.cells #[I (tk l i).kind, .string (tk l i).text, I (tk l i).pos, I (tk l i).line, I (tk l i).col] 34)).drew) = .ok (.slice (some ⟨gg, 0, none⟩) (y2.out.length + 1) cap2) w5 := hr
                clear hr
                go_wp2_with fail
                go_region
                go_wp2_with fail
                go_roundg (l.length + 1 - (i + 1))
                case measure => have := HN.out; omega
                case rel =>
                  refine ⟨i + 1, { y2 with out := y2.out ++ [tk l i] }, by omega, by go_num, rfl, (HV2.out.put).more (by omega), ⟨f, by omega, HC4.out⟩, ⟨_, _, HP.out.1⟩, ?_⟩
                  exact ((HKZ.out.alloc hlw _).drew).trans HP.out.2
        · have d1 : decide ((i : Int) < (l.length : Int)) = false := decide_eq_false (by omega)
          obtain rfl : i = l.length := by omega
          have HC2 : Hid ((match stopM l z with
              | .error f => Except.error f
              | .ok y => Except.ok y.out) = res) := by
            obtain ⟨f, hf, hc⟩ := HF.out
            cases f with
            | zero => omega
            | succ f => exact Lib.hid (by rw [roundsK, if_neg hlt2] at hc; exact hc)
          clear HF hlt2
          go_wp2_with fail
          refine (stop_any HZ.out HV.out.pos HV.out.most (by have := HV.out.len; omega) (by have := H0.out; omega) hl (by have := (HSM.out (l.length - 1)).1; omega) (by have := (HSM.out (l.length - 1)).2.1; omega)).mono ?_
          rintro e w3 h3
          generalize hbm : stopM l z = bm at h3
          have HBM := Lib.hid hbm
          clear hbm
          cases bm with
          | error fl =>
            obtain rfl : Except.error fl = res := by have := HC2.out; rw [HBM.out] at this; exact this
            obtain ⟨rfl, k3⟩ := h3
            go_wp2_with fail
            exact ⟨rfl, rfl, HK.out.trans k3⟩
          | ok y2 =>
            obtain rfl : Except.ok y2.out = res := by have := HC2.out; rw [HBM.out] at this; exact this
            obtain ⟨rfl, ⟨ov', rv', hy⟩, k3⟩ := h3
            obtain ⟨_, c1, _, _⟩ := hy.cells
            have HO := Lib.hid hy.out
            have HK3 := Lib.hid (HK.out.trans k3)
            clear hy k3
            go_wp2_with fail
            go_ret
            exact ⟨_, rfl, HO.out, HK3.out⟩
end Go.Proofs.YtcdidmohgcegmaaDoor
