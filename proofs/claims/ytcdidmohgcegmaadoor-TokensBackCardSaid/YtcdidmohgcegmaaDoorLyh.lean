/- The contract of bracket. -/
import Derived.Test.YtcdidmohgcegmaaDoorLyf
import Derived.StillTailTactics
namespace Go.Proofs.YtcdidmohgcegmaaDoor
open Go.RowKit
set_option maxRecDepth 100000

def clsK : Nat → Ly → Tok → Ly
  | 0, y, _ => y
  | f + 1, y, t => if 1 < y.regs.length ∧ y.top.ind = true then clsK f (outM y t) t else y
def clsOut (z : Ly) (t : Tok) (i : Nat) : Except Flt Ly :=
  if ((closerM z.top.mark).toList == t.text.toList) = true then .ok { z with regs := z.regs.dropLast } else .error ⟨i, 27⟩
def bracketM (l : List Tok) (y : Ly) (i : Nat) : Except Flt Ly :=
  if (tk l i).kind ≠ 3 then .ok y
  else if (closerM (tk l i).text).toList.isEmpty = false then
    (if y.regs.length = 64 then .error ⟨i, 8⟩ else .ok { y with regs := y.regs ++ [⟨(tk l i).text, y.margin, i⟩] })
  else if closesM (tk l i).text = false then .ok y
  else clsOut (clsK y.regs.length y (tk l i)) (tk l i) i

theorem opens_not (m : ByteArray) (h : (closerM m).toList.isEmpty = false) : closesM m = false := by
  by_cases h2 : closesM m = true
  · rw [closes_closer m h2] at h; cases h
  · simpa using h2
theorem box_cells' {w : World} {b : Nat} {t : Tok} (h : w.heap[b]? = some (tokO t)) : w.cell? ⟨b, 0, none⟩ = some (I t.kind) ∧ w.cell? ⟨b, 1, none⟩ = some (.string t.text) ∧ w.cell? ⟨b, 2, none⟩ = some (I t.pos) ∧ w.cell? ⟨b, 3, none⟩ = some (I t.line) ∧ w.cell? ⟨b, 4, none⟩ = some (I t.col) := by
  simp [cell_of_row w b _ _ _ _ h]

set_option maxRecDepth 100000 in
set_option maxHeartbeats 1600000 in
theorem bracket_any {w : World} {g : Nat} {iv : Value} {l : List Tok} {y : Ly} (i : Nat) (h : LyAt w g iv l y) (h0 : 0 < y.regs.length) (hb : y.regs.length ≤ 64) (hn : y.out.length + y.regs.length ≤ 1000000) (hi : i < l.length) (hl : l.length ≤ 1000000) :
    Calls Tryd.prog 62 #[.pointer (some ⟨g, 0, none⟩), I i] w (YOut w g iv l (bracketM l y i)) := by
  generalize hm : bracketM l y i = res
  unfold bracketM at hm
  have HM := Lib.hid hm
  clear hm
  have HS0 := Lib.hid (show Sit w (w.alloc (tokO (tk l i))) g iv l y w.heap.size (tokO (tk l i)) from ⟨h.alloc _, h.apart_new _, heap_alloc_new w _, (KeepA.refl g w).alloc h.lt _⟩)
  obtain ⟨ov, rv, hx⟩ := h
  obtain ⟨k, cap, rfl, hk, hin⟩ := in_form hx.inn (by omega)
  obtain ⟨c0, _, _, c3⟩ := hx.cells
  have hlt := hx.lt
  obtain ⟨t0, t1, t2, t3, t4⟩ := hin i hi
  have b0 : ((i : Int) < (l.length : Int)) := by omega
  clear hx hin
  generalize tk l i = t at *
  obtain ⟨kind, text, pos, line, col⟩ := t
  unfold tokO at HS0
  dsimp only at *
  by_cases h3 : kind = 3
  · subst h3
    have HM1 : Hid ((if (closerM text).toList.isEmpty = false then
        (if y.regs.length = 64 then Except.error ⟨i, 8⟩ else Except.ok { y with regs := y.regs ++ [⟨text, y.margin, i⟩] })
      else if closesM text = false then Except.ok y
      else clsOut (clsK y.regs.length y ⟨3, text, pos, line, col⟩) ⟨3, text, pos, line, col⟩ i) = res) := Lib.hid (by have := HM.out; rw [if_neg (by simp)] at this; exact this)
    clear HM
    by_cases ho : (closerM text).toList.isEmpty = false
    · have hno := opens_not _ ho
      have HM2 : Hid ((if y.regs.length = 64 then Except.error ⟨i, 8⟩ else Except.ok { y with regs := y.regs ++ [⟨text, y.margin, i⟩] }) = res) := Lib.hid (by have := HM1.out; rw [if_pos ho] at this; exact this)
      have ho' : (!(closerM text).toList.isEmpty) = true := by simp [ho]
      clear HM1
      go_enter Tryd.func62, Tryd.ntmps62
      go_wp2_with (go_at_call 80; refine (closer_any _ _).mono ?_; rintro e w' ⟨rfl, rfl⟩)
      have HT0 : Sit w (w.alloc (.cells #[.int .i64 3, .string text, .int .i64 pos, .int .i64 line, .int .i64 col] 34 (0, 0))) g (.slice (some ⟨k, 0, none⟩) l.length cap) l y w.heap.size (.cells #[I 3, .string text, I pos, I line, I col] 34 (0, 0)) := HS0.out
      clear HS0
      generalize w.alloc (.cells #[.int .i64 3, .string text, .int .i64 pos, .int .i64 line, .int .i64 col] 34 (0, 0)) = wb at HT0 ⊢
      have HS0 := Lib.hid HT0
      clear HT0
      have c3b : wb.cell? ⟨g, 3, none⟩ = some (I y.margin) := by
        obtain ⟨_, _, hy⟩ := HS0.out.ly
        exact hy.cells.2.2.2
      obtain ⟨_, q1b, _⟩ := box_cells' (t := ⟨3, text, pos, line, col⟩) HS0.out.box
      go_still_tail 9, (by kernel_rfl)
      by_cases h64 : y.regs.length = 64
      · obtain rfl : Except.error ⟨i, 8⟩ = res := by have := HM2.out; rw [if_pos h64] at this; exact this
        change wpList _ _ _ _ _ (World.drew _)
        have HD := Lib.hid HS0.out.drew
        go_wp2_with fail
        refine (lypush_deep ⟨text, y.margin, i⟩ HD.out.ly h64).mono ?_
        rintro e w4 ⟨rfl, k4⟩
        go_wp2_with fail
        exact ⟨rfl, rfl, HD.out.keep.trans k4⟩
      · obtain rfl : Except.ok { y with regs := y.regs ++ [⟨text, y.margin, i⟩] } = res := by have := HM2.out; rw [if_neg h64] at this; exact this
        change wpList _ _ _ _ _ (World.drew _)
        have HD := Lib.hid HS0.out.drew
        go_wp2_with fail
        refine (lypush_any ⟨text, y.margin, i⟩ HD.out.ly (by omega)).mono ?_
        rintro e w4 ⟨rfl, h4, k4⟩
        have HS4 := Lib.hid (HD.out.step h4 k4)
        clear h4 k4
        obtain ⟨_, q1, _⟩ := box_cells' (t := ⟨3, text, pos, line, col⟩) HS4.out.box
        go_wp2_with (go_at_call 81; refine (closes_any _ _).mono ?_; rintro e w' ⟨rfl, rfl⟩; rw [hno])
        go_end0
        exact ⟨rfl, HS4.out.ly, HS4.out.keep⟩
    · have ho' : (!(closerM text).toList.isEmpty) = false := by simpa using ho
      have HM2 : Hid ((if closesM text = false then Except.ok y
        else clsOut (clsK y.regs.length y ⟨3, text, pos, line, col⟩) ⟨3, text, pos, line, col⟩ i) = res) := Lib.hid (by have := HM1.out; rw [if_neg ho] at this; exact this)
      clear HM1 ho
      by_cases hc : closesM text = true
      · have HM3 : Hid (clsOut (clsK y.regs.length y ⟨3, text, pos, line, col⟩) ⟨3, text, pos, line, col⟩ i = res) := Lib.hid (by have := HM2.out; rw [if_neg (by simp [hc])] at this; exact this)
        clear HM2
        go_enter Tryd.func62, Tryd.ntmps62
        go_wp2_with (first | (go_at_call 80; refine (closer_any _ _).mono ?_; rintro e w' ⟨rfl, rfl⟩) | (go_at_call 81; refine (closes_any _ _).mono ?_; rintro e w' ⟨rfl, rfl⟩; rw [hc]))
        go_loopg [] y.regs.length (fun n wr => ∃ z : Ly, Hid (n = z.regs.length) ∧ 0 < z.regs.length ∧ z.regs.length ≤ 64 ∧ Hid (z.out.length + z.regs.length ≤ 1000000) ∧
          Hid (∃ f, z.regs.length ≤ f ∧ clsOut (clsK f z ⟨3, text, pos, line, col⟩) ⟨3, text, pos, line, col⟩ i = res) ∧ Hid (Sit w wr g (.slice (some ⟨k, 0, none⟩) l.length cap) l z w.heap.size (.cells #[I 3, .string text, I pos, I line, I col] 34 (0, 0))))
        case atStart => exact ⟨y, rfl, h0, hb, hn, ⟨_, Nat.le_refl _, HM3.out⟩, HS0.out⟩
        case round =>
          obtain ⟨z, HN, hz0, hz1, HL, HF, HZ⟩ := hrel
          clear HS0 HM3 c0 c3 hlt t0 t1 t2 t3 t4 b0 ho' hc
          obtain ⟨A, cap', c2⟩ := HZ.out.ly.regCell
          have hlt := HZ.out.ly.lt
          have hbl := HZ.out.apart.1
          go_upto_region 5 with fail
          go_cut [43] from 33 to 46 (fun s43 wx => s43 = .bool (decide (1 < z.regs.length ∧ z.top.ind = true)) ∧ Hid (Sit w wx g (.slice (some ⟨k, 0, none⟩) l.length cap) l z w.heap.size (.cells #[I 3, .string text, I pos, I line, I col] 34 (0, 0))))
          case first =>
            by_cases h1 : 1 < z.regs.length
            · have d1 : decide ((1 : Int) < (z.regs.length : Int)) = true := decide_eq_true (by omega)
              have HD := Lib.hid (show z.top.ind = decide (1 < z.regs.length ∧ z.top.ind = true) by simp [h1])
              clear h1
              go_wp2_with (first | (go_at_call 59; refine (innermost_agg (y := z) (l := l) (iv := .slice (some ⟨k, 0, none⟩) l.length cap) ?_ (by omega) (by omega)).mono ?_; (repeat' first | exact HZ.out.ly | refine LyAt.drewN ?_ _ | refine LyAt.alloc ?_ _ | refine LyAt.drew ?_); rintro e w' ⟨rfl, n, rfl⟩) | (go_at_call 82; refine (ind_any z.top _).mono ?_; rintro e w' ⟨rfl, rfl⟩))
              go_meet
              exact ⟨congrArg Value.bool HD.out, by (repeat' first | exact HZ.out | refine Sit.drewN ?_ _ | refine Sit.alloc ?_ _ | refine Sit.drew ?_)⟩
            · have HD := Lib.hid (show false = decide (1 < z.regs.length ∧ z.top.ind = true) by simp [h1])
              have d1 : decide ((1 : Int) < (z.regs.length : Int)) = false := decide_eq_false (by omega)
              clear h1
              go_wp2_with fail
              go_meet
              exact ⟨congrArg Value.bool HD.out, by (repeat' first | exact HZ.out | refine Sit.drewN ?_ _ | refine Sit.alloc ?_ _ | refine Sit.drew ?_)⟩
          case rest =>
            obtain ⟨rfl, HW⟩ := hcut
            clear HZ c2 hlt hbl
            have hlt := HW.out.ly.lt
            have hbl := HW.out.apart.1
            obtain ⟨b0, b1, b2, b3, b4⟩ := box_cells' (t := ⟨3, text, pos, line, col⟩) HW.out.box
            by_cases hq : 1 < z.regs.length ∧ z.top.ind = true
            · have hdq : decide (1 < z.regs.length ∧ z.top.ind = true) = true := decide_eq_true hq
              obtain ⟨f, hf, HC⟩ : ∃ f, z.regs.length ≤ f + 1 ∧ Hid (clsOut (clsK f (outM z ⟨3, text, pos, line, col⟩) ⟨3, text, pos, line, col⟩) ⟨3, text, pos, line, col⟩ i = res) := by
                obtain ⟨f, hf, hc⟩ := HF.out
                cases f with
                | zero => omega
                | succ f => exact ⟨f, hf, by rw [clsK, if_pos hq] at hc; exact hc⟩
              have hq1 := hq.1
              clear HF hq
              rw [hdq]
              clear hdq
              go_wp2_with fail
              refine (outdent_any ⟨3, text, pos, line, col⟩ HW.out.ly hz0 (by omega) (by have := HL.out; omega)).mono ?_
              rintro e w3 ⟨rfl, h3, k3⟩
              have HX := Lib.hid (HW.out.step h3 k3)
              clear h3 k3
              go_wp2_with fail
              go_roundg (z.regs.length - 1)
              case measure => have := HN.out; omega
              case rel =>
                have e1 : (outM z ⟨3, text, pos, line, col⟩).regs.length = z.regs.length - 1 := by simp [outM]
                have e2 : (outM z ⟨3, text, pos, line, col⟩).out.length = z.out.length + 1 := by simp [outM]
                refine ⟨outM z ⟨3, text, pos, line, col⟩, Lib.hid e1.symm, by omega, by omega, Lib.hid (by have := HL.out; omega), ⟨f, by omega, HC.out⟩, HX.out⟩
            · have hdq : decide (1 < z.regs.length ∧ z.top.ind = true) = false := decide_eq_false hq
              have hr : clsOut z ⟨3, text, pos, line, col⟩ i = res := by
                obtain ⟨f, hf, hc⟩ := HF.out
                cases f with
                | zero => omega
                | succ f => rw [clsK, if_neg hq] at hc; exact hc
              have HR := Lib.hid hr
              clear HF hq hr
              rw [hdq]
              clear hdq
              go_upto_region 7 with fail
              have hf0 := field_mark
              go_cut [53] (fun s53 wx => s53 = .bool (!((closerM z.top.mark).toList == text.toList)) ∧ Hid (Sit w wx g (.slice (some ⟨k, 0, none⟩) l.length cap) l z w.heap.size (.cells #[I 3, .string text, I pos, I line, I col] 34 (0, 0))))
              case first =>
                (first | go_region_with (first | (go_at_call 59; refine (innermost_agg (y := z) (l := l) (iv := .slice (some ⟨k, 0, none⟩) l.length cap) ?_ (by omega) (by omega)).mono ?_; (repeat' first | exact HW.out.ly | refine LyAt.drewN ?_ _ | refine LyAt.alloc ?_ _ | refine LyAt.drew ?_); rintro e w' ⟨rfl, n, rfl⟩) | (go_at_call 80; refine (closer_any _ _).mono ?_; rintro e w' ⟨rfl, rfl⟩)) | fail)
                all_goals
                  go_wp2_with fail
                  go_meet
                  exact ⟨rfl, by (repeat' first | exact HW.out | refine Sit.drewN ?_ _ | refine Sit.alloc ?_ _ | refine Sit.drew ?_)⟩
              case rest =>
                obtain ⟨rfl, HV⟩ := hcut
                by_cases he : ((closerM z.top.mark).toList == text.toList) = true
                · obtain rfl : Except.ok { z with regs := z.regs.dropLast } = res := by have := HR.out; unfold clsOut at this; rw [if_pos he] at this; exact this
                  rw [he]
                  clear he HR
                  go_wp2_with fail
                  refine (lypop_any HV.out.ly hz0 (by omega)).mono ?_
                  rintro e w3 ⟨rfl, h3, k3⟩
                  go_wp2_with fail
                  go_end0
                  exact ⟨rfl, h3, HV.out.keep.trans k3⟩
                · have he' : ((closerM z.top.mark).toList == text.toList) = false := by simpa using he
                  obtain rfl : Except.error ⟨i, 27⟩ = res := by have := HR.out; unfold clsOut at this; rw [if_neg he] at this; exact this
                  rw [he']
                  clear he he' HR
                  go_wp2_with (go_at_call 49; refine (fail_any _ _ _).mono ?_; rintro e w' ⟨rfl, rfl⟩)
                  exact ⟨rfl, rfl, HV.out.keep⟩
      · have hc' : closesM text = false := by simpa using hc
        obtain rfl : Except.ok y = res := by have := HM2.out; rw [if_pos hc'] at this; exact this
        clear HM2 hc
        go_enter Tryd.func62, Tryd.ntmps62
        go_wp2_with (first | (go_at_call 80; refine (closer_any _ _).mono ?_; rintro e w' ⟨rfl, rfl⟩) | (go_at_call 81; refine (closes_any _ _).mono ?_; rintro e w' ⟨rfl, rfl⟩; rw [hc']))
        go_end0
        exact ⟨rfl, HS0.out.ly, HS0.out.keep⟩
  · have d3 : ((kind : Int) != 3) = true := by simp; omega
    obtain rfl : Except.ok y = res := by have := HM.out; rw [if_pos h3] at this; exact this
    clear HM h3
    go_enter Tryd.func62, Tryd.ntmps62
    go_wp2_with fail
    go_end0
    exact ⟨rfl, HS0.out.ly, HS0.out.keep⟩
end Go.Proofs.YtcdidmohgcegmaaDoor
