/- The contract of dedent. -/
import Derived.Test.YtcdidmohgcegmaaDoorLye
import Derived.Deep.RegionWith
import Derived.Deep.CutRange
namespace Go.Proofs.YtcdidmohgcegmaaDoor
open Go.RowKit
set_option maxRecDepth 100000

def outM (y : Ly) (t : Tok) : Ly := { y with out := y.out ++ [layM 13 t], regs := y.regs.dropLast }
def dedK : Nat → Ly → Tok → Bool → Bool × Ly
  | 0, y, _, c => (c, y)
  | f + 1, y, t, c => if 1 < y.regs.length ∧ y.top.ind = true ∧ t.col < y.top.width then dedK f (outM y t) t true else (c, y)
def dedM (y : Ly) (t : Tok) : Except Flt Ly :=
  let (c, z) := dedK y.regs.length y t false
  if z.top.ind = true ∧ (t.col < z.top.width ∨ c = true ∧ z.top.width < t.col) then .error ⟨t.pos, 23⟩ else .ok z
def dedOut (r : Bool × Ly) (t : Tok) : Except Flt Ly :=
  if r.2.top.ind = true ∧ (t.col < r.2.top.width ∨ r.1 = true ∧ r.2.top.width < t.col) then .error ⟨t.pos, 23⟩ else .ok r.2
/-- How a method of the layouter ends. -/
def YOut (w : World) (g : Nat) (iv : Value) (l : List Tok) (o : Except Flt Ly) (e : Ending) (w' : World) : Prop :=
  match o with
  | .ok y' => e = .returned (.tuple #[]) ∧ LyAt w' g iv l y' ∧ KeepA g w w'
  | .error f => e = .panicked [{ v := .iface 28 (fltV f), recovered := false }] ∧ KeepA g w w'
theorem LyAt.apart_new {w : World} {g : Nat} {iv : Value} {l : List Tok} {y : Ly} (h : LyAt w g iv l y) (o : Obj) : Apart (w.alloc o) g w.heap.size := by obtain ⟨ov, rv, h⟩ := h; exact h.apart_new o
theorem Apart.drewN {w : World} {g p : Nat} (h : Apart w g p) (n : Nat) : Apart (w.drewN n) g p := h
theorem LyAt.regCell {w : World} {g : Nat} {iv : Value} {l : List Tok} {y : Ly} (h : LyAt w g iv l y) : ∃ A cap, w.cell? ⟨g, 2, none⟩ = some (.slice A y.regs.length cap) := by
  obtain ⟨ov, rv, h⟩ := h
  obtain ⟨_, _, c2, _⟩ := h.cells
  rcases h.reg.2 with ⟨rfl, h2⟩ | ⟨k, cap, cur, rfl, _⟩
  · exact ⟨_, _, by rw [c2, h2]⟩
  · exact ⟨_, cap, c2⟩

theorem field_width (m : ByteArray) (a b : Nat) (w : World) : (Instr.field 85 (.agg #[.string m, I a, I b]) 1).run Tryd.prog w = .ok (I a) w := rfl
theorem field_mark (m : ByteArray) (a b : Nat) (w : World) : (Instr.field 85 (.agg #[.string m, I a, I b]) 0).run Tryd.prog w = .ok (.string m) w := rfl
theorem innermost_agg {w : World} {g : Nat} {iv : Value} {l : List Tok} {y : Ly} (h : LyAt w g iv l y) (h0 : 0 < y.regs.length) (hb : y.regs.length < 1000) :
    Calls Tryd.prog 59 #[.pointer (some ⟨g, 0, none⟩)] w fun e w' => e = .returned (.agg #[.string y.top.mark, I y.top.width, I y.top.index]) ∧ ∃ n, w' = (w.alloc (rgO y.top)).drewN n := innermost_any h h0 hb
theorem cell_three {wr : World} {a : Addr} {v : Value} (h4 : wr.cell? a = some v) (hb : a.block < wr.heap.size) (o1 o2 o3 : Obj) (n : Nat) : ((((wr.alloc o1).drewN n).alloc o2).alloc o3).cell? a = some v :=
  (World.cell?_alloc_lt _ _ _ (by simp; omega)).trans ((World.cell?_alloc_lt _ _ _ (by simp; omega)).trans ((World.cell?_alloc_lt wr _ _ hb).trans h4))
theorem new_three (wc : World) (r : Rg) (n : Nat) (o : Obj) : ((((wc.alloc (rgO r)).drewN n).alloc (.cells #[.string r.mark, .int .i64 r.width, .int .i64 r.index] 85)).alloc o).cell? ⟨wc.heap.size + 1, 1, none⟩ = some (I r.width) ∧
    ((((wc.alloc (rgO r)).drewN n).alloc (.cells #[.string r.mark, .int .i64 r.width, .int .i64 r.index] 85)).alloc o).cell? ⟨wc.heap.size + 1, 2, none⟩ = some (I r.index) := by
  have h := heap_alloc_new ((wc.alloc (rgO r)).drewN n) (.cells #[.string r.mark, .int .i64 r.width, .int .i64 r.index] 85)
  rw [show ((wc.alloc (rgO r)).drewN n).heap.size = wc.heap.size + 1 by simp] at h
  constructor
  · rw [World.cell?_alloc_lt _ _ _ (by simp), cell_of_row _ _ _ _ _ _ h]; rfl
  · rw [World.cell?_alloc_lt _ _ _ (by simp), cell_of_row _ _ _ _ _ _ h]; rfl
/-- The layouter as the model has it, a block beside it with what it holds, and nothing else turned. -/
structure Sit (w0 wx : World) (g : Nat) (iv : Value) (l : List Tok) (z : Ly) (b : Nat) (o : Obj) : Prop where
  ly : LyAt wx g iv l z
  apart : Apart wx g b
  box : wx.heap[b]? = some o
  keep : KeepA g w0 wx
section
variable {w0 wx : World} {g b : Nat} {iv : Value} {l : List Tok} {z : Ly} {o : Obj}
theorem Sit.drew (h : Sit w0 wx g iv l z b o) : Sit w0 wx.drew g iv l z b o := ⟨h.ly.drew, h.apart, h.box, h.keep.drew⟩
theorem Sit.drewN (h : Sit w0 wx g iv l z b o) (n : Nat) : Sit w0 (wx.drewN n) g iv l z b o := ⟨h.ly.drewN n, h.apart.drewN n, h.box, h.keep.drewN n⟩
theorem Sit.alloc (h : Sit w0 wx g iv l z b o) (o' : Obj) : Sit w0 (wx.alloc o') g iv l z b o := ⟨h.ly.alloc o', h.apart.alloc h.ly.lt o', (Below.heap_alloc wx o' b h.apart.1).trans h.box, h.keep.alloc h.ly.lt o'⟩
theorem Sit.step {wy : World} {z' : Ly} (h : Sit w0 wx g iv l z b o) (h1 : LyAt wy g iv l z') (h2 : KeepA g wx wy) : Sit w0 wy g iv l z' b o := ⟨h1, (h2.block b h.apart).1, ((h2.block b h.apart).2).trans h.box, h.keep.trans h2⟩
end

set_option maxRecDepth 100000 in
set_option maxHeartbeats 1600000 in
theorem dedent_any {w : World} {g : Nat} {iv : Value} {l : List Tok} {y : Ly} (t : Tok) (h : LyAt w g iv l y) (h0 : 0 < y.regs.length) (hb : y.regs.length ≤ 64) (hn : y.out.length + y.regs.length ≤ 1000000) :
    Calls Tryd.prog 77 #[.pointer (some ⟨g, 0, none⟩), tokV t] w (YOut w g iv l (dedM y t)) := by
  have hm : dedM y t = dedOut (dedK y.regs.length y t false) t := rfl
  rw [hm]
  clear hm
  generalize hres : dedK y.regs.length y t false = res
  have HR := Lib.hid hres
  have HS : Hid (Sit w (w.alloc (tokO t)) g iv l y w.heap.size (tokO t)) := Lib.hid ⟨h.alloc (tokO t), h.apart_new (tokO t), outM_alloc (w := w) t, (KeepA.refl g w).alloc h.lt (tokO t)⟩
  clear h hres
  obtain ⟨kind, text, pos, line, col⟩ := t
  unfold tokV
  unfold tokO at *
  dsimp only at *
  go_enter Tryd.func77, Tryd.ntmps77
  go_wp2_with fail
  go_loopg [4] y.regs.length (fun n v wr => ∃ (z : Ly) (c : Bool), v = .bool c ∧ Hid (n = z.regs.length) ∧ 0 < z.regs.length ∧ z.regs.length ≤ 64 ∧ Hid (z.out.length + z.regs.length ≤ 1000000) ∧
    Hid (∃ f, z.regs.length ≤ f ∧ dedK f z ⟨kind, text, pos, line, col⟩ c = res) ∧ Hid (Sit w wr g iv l z w.heap.size (.cells #[I kind, .string text, I pos, I line, I col] 34 (0, 0))))
  case atStart => exact ⟨y, false, rfl, rfl, h0, hb, hn, ⟨_, Nat.le_refl _, HR.out⟩, HS.out⟩
  case round =>
    obtain ⟨z, c, rfl, HN, hz0, hz1, HL, HF, HZ⟩ := hrel
    clear HR HS
    obtain ⟨A, cap, c2⟩ := HZ.out.ly.regCell
    have b4 : wr.cell? ⟨w.heap.size, 4, none⟩ = some (I col) := by simp [cell_of_row wr _ _ _ _ _ HZ.out.box]
    have b2 : wr.cell? ⟨w.heap.size, 2, none⟩ = some (I pos) := by simp [cell_of_row wr _ _ _ _ _ HZ.out.box]
    have hlt := HZ.out.ly.lt
    have hbl := HZ.out.apart.1
    go_upto_region 2 with fail
    go_cut [24] from 6 to 27 (fun s24 wx => s24 = .bool (decide (1 < z.regs.length ∧ z.top.ind = true ∧ col < z.top.width)) ∧ Hid (Sit w wx g iv l z w.heap.size (.cells #[I kind, .string text, I pos, I line, I col] 34 (0, 0))))
    case first =>
      by_cases h1 : 1 < z.regs.length
      · have d1 : decide ((1 : Int) < (z.regs.length : Int)) = true := decide_eq_true (by omega)
        by_cases h2 : z.top.ind = true
        · have HD := Lib.hid (show decide (col < z.top.width) = decide (1 < z.regs.length ∧ z.top.ind = true ∧ col < z.top.width) by simp [h1, h2])
          clear h1
          have hf1 := field_width
          have h5 := cell_three b4 hbl
          (first | go_region_with (first | (go_at_call 59; refine (innermost_agg (y := z) (l := l) (iv := iv) ?_ (by omega) (by omega)).mono ?_; (repeat' first | exact HZ.out.ly | refine LyAt.drewN ?_ _ | refine LyAt.alloc ?_ _ | refine LyAt.drew ?_); rintro e w' ⟨rfl, n, rfl⟩) | (go_at_call 82; refine (ind_any z.top _).mono ?_; rintro e w' ⟨rfl, rfl⟩; rw [h2])) | fail)
          all_goals
            go_wp2_with fail
            go_meet
            exact ⟨congrArg Value.bool HD.out, by (repeat' first | exact HZ.out | refine Sit.drewN ?_ _ | refine Sit.alloc ?_ _ | refine Sit.drew ?_)⟩
        · have h2' : z.top.ind = false := by simpa using h2
          have HD := Lib.hid (show false = decide (1 < z.regs.length ∧ z.top.ind = true ∧ col < z.top.width) by simp [h2])
          clear h1 h2
          (first | go_region_with (first | (go_at_call 59; refine (innermost_agg (y := z) (l := l) (iv := iv) ?_ (by omega) (by omega)).mono ?_; (repeat' first | exact HZ.out.ly | refine LyAt.drewN ?_ _ | refine LyAt.alloc ?_ _ | refine LyAt.drew ?_); rintro e w' ⟨rfl, n, rfl⟩) | (go_at_call 82; refine (ind_any z.top _).mono ?_; rintro e w' ⟨rfl, rfl⟩; rw [h2'])) | fail)
          all_goals
            go_wp2_with fail
            go_meet
            exact ⟨congrArg Value.bool HD.out, by (repeat' first | exact HZ.out | refine Sit.drewN ?_ _ | refine Sit.alloc ?_ _ | refine Sit.drew ?_)⟩
      · have HD := Lib.hid (show false = decide (1 < z.regs.length ∧ z.top.ind = true ∧ col < z.top.width) by simp [h1])
        have d1 : decide ((1 : Int) < (z.regs.length : Int)) = false := decide_eq_false (by omega)
        clear h1
        go_quiet (fail)
        go_wp2_with fail
        go_meet
        exact ⟨congrArg Value.bool HD.out, by (repeat' first | exact HZ.out | refine Sit.drewN ?_ _ | refine Sit.alloc ?_ _ | refine Sit.drew ?_)⟩
    case rest =>
      obtain ⟨rfl, HW⟩ := hcut
      clear HZ c2 b4 b2 hlt hbl
      have b4 : wc.cell? ⟨w.heap.size, 4, none⟩ = some (I col) := by simp [cell_of_row wc _ _ _ _ _ HW.out.box]
      have b2 : wc.cell? ⟨w.heap.size, 2, none⟩ = some (I pos) := by simp [cell_of_row wc _ _ _ _ _ HW.out.box]
      have b0 : wc.cell? ⟨w.heap.size, 0, none⟩ = some (I kind) := by simp [cell_of_row wc _ _ _ _ _ HW.out.box]
      have b1 : wc.cell? ⟨w.heap.size, 1, none⟩ = some (.string text) := by simp [cell_of_row wc _ _ _ _ _ HW.out.box]
      have b3 : wc.cell? ⟨w.heap.size, 3, none⟩ = some (I line) := by simp [cell_of_row wc _ _ _ _ _ HW.out.box]
      have hlt := HW.out.ly.lt
      have hbl := HW.out.apart.1
      by_cases hq : 1 < z.regs.length ∧ z.top.ind = true ∧ col < z.top.width
      · have hdq : decide (1 < z.regs.length ∧ z.top.ind = true ∧ col < z.top.width) = true := decide_eq_true hq
        obtain ⟨f, hf, HC⟩ : ∃ f, z.regs.length ≤ f + 1 ∧ Hid (dedK f (outM z ⟨kind, text, pos, line, col⟩) ⟨kind, text, pos, line, col⟩ true = res) := by
          obtain ⟨f, hf, hc⟩ := HF.out
          cases f with
          | zero => omega
          | succ f => exact ⟨f, hf, by rw [dedK, if_pos hq] at hc; exact hc⟩
        have hq1 := hq.1
        clear HF hq
        rw [hdq]
        clear hdq
        go_wp2_with fail
        refine (outdent_any ⟨kind, text, pos, line, col⟩ HW.out.ly hz0 (by omega) (by have := HL.out; omega)).mono ?_
        rintro e w3 ⟨rfl, h3, k3⟩
        have HX := Lib.hid (HW.out.step h3 k3)
        clear h3 k3
        go_wp2_with fail
        go_roundg (z.regs.length - 1)
        case measure => have := HN.out; omega
        case rel =>
          have e1 : (outM z ⟨kind, text, pos, line, col⟩).regs.length = z.regs.length - 1 := by simp [outM]
          have e2 : (outM z ⟨kind, text, pos, line, col⟩).out.length = z.out.length + 1 := by simp [outM]
          refine ⟨outM z ⟨kind, text, pos, line, col⟩, true, rfl, Lib.hid e1.symm, by omega, by omega, Lib.hid (by have := HL.out; omega), ⟨f, by omega, HC.out⟩, HX.out⟩
      · have hdq : decide (1 < z.regs.length ∧ z.top.ind = true ∧ col < z.top.width) = false := decide_eq_false hq
        have hr : res = (c, z) := by
          obtain ⟨f, hf, hc⟩ := HF.out
          cases f with
          | zero => omega
          | succ f => rw [dedK, if_neg hq] at hc; exact hc.symm
        subst hr
        clear HF hq
        rw [hdq]
        clear hdq
        go_wp2_with (first | (go_at_call 59; refine (innermost_agg (y := z) (l := l) (iv := iv) ?_ (by omega) (by omega)).mono ?_; (repeat' first | exact HW.out.ly | refine LyAt.drewN ?_ _ | refine LyAt.alloc ?_ _ | refine LyAt.drew ?_); rintro e w' ⟨rfl, n, rfl⟩))
        have h5 := cell_three b4 hbl
        have h52 := cell_three b2 hbl
        have h6 := fun n o => (new_three wc z.top n o).1
        have HY := Lib.hid ((((HW.out.alloc (rgO z.top)).drewN n).alloc (.cells #[.string z.top.mark, .int .i64 z.top.width, .int .i64 z.top.index] 85)).alloc (rgO z.top))
        by_cases hI : z.top.ind = true
        · have hI' := hI
          by_cases h1 : col < z.top.width
          · have HO := Lib.hid (show dedOut (c, z) ⟨kind, text, pos, line, col⟩ = .error ⟨pos, 23⟩ by unfold dedOut; rw [if_pos ⟨hI, .inl h1⟩])
            refine (ind_any z.top _).mono ?_
            rintro e w' ⟨rfl, rfl⟩
            rw [hI']
            clear hI hI'
            go_wp2_with (go_at_call 49; refine (fail_any _ _ _).mono ?_; rintro e w' ⟨rfl, rfl⟩)
            rw [HO.out]
            exact ⟨rfl, rfl, HY.out.keep⟩
          · cases c with
            | true =>
              by_cases h2 : z.top.width < col
              · have HO := Lib.hid (show dedOut (true, z) ⟨kind, text, pos, line, col⟩ = .error ⟨pos, 23⟩ by unfold dedOut; rw [if_pos ⟨hI, .inr ⟨rfl, h2⟩⟩])
                refine (ind_any z.top _).mono ?_
                rintro e w' ⟨rfl, rfl⟩
                rw [hI']
                clear hI hI'
                go_wp2_with (go_at_call 49; refine (fail_any _ _ _).mono ?_; rintro e w' ⟨rfl, rfl⟩)
                rw [HO.out]
                exact ⟨rfl, rfl, HY.out.keep⟩
              · have HO := Lib.hid (show dedOut (true, z) ⟨kind, text, pos, line, col⟩ = .ok z by unfold dedOut; rw [if_neg (by rintro ⟨_, h | ⟨_, h⟩⟩ <;> first | exact h1 h | exact h2 h)])
                refine (ind_any z.top _).mono ?_
                rintro e w' ⟨rfl, rfl⟩
                rw [hI']
                clear hI hI'
                go_wp2_with fail
                go_end0
                rw [HO.out]
                exact ⟨rfl, HY.out.ly, HY.out.keep⟩
            | false =>
              have HO := Lib.hid (show dedOut (false, z) ⟨kind, text, pos, line, col⟩ = .ok z by unfold dedOut; rw [if_neg (by rintro ⟨_, h | ⟨h, _⟩⟩ <;> first | exact h1 h | exact Bool.noConfusion h)])
              refine (ind_any z.top _).mono ?_
              rintro e w' ⟨rfl, rfl⟩
              rw [hI']
              clear hI hI'
              go_wp2_with fail
              go_end0
              rw [HO.out]
              exact ⟨rfl, HY.out.ly, HY.out.keep⟩
        · have hI' : z.top.ind = false := by simpa using hI
          have HO := Lib.hid (show dedOut (c, z) ⟨kind, text, pos, line, col⟩ = .ok z by unfold dedOut; rw [if_neg (by rintro ⟨h, _⟩; exact hI h)])
          refine (ind_any z.top _).mono ?_
          rintro e w' ⟨rfl, rfl⟩
          rw [hI']
          clear hI hI'
          go_wp2_with fail
          go_end0
          rw [HO.out]
          exact ⟨rfl, HY.out.ly, HY.out.keep⟩
end Go.Proofs.YtcdidmohgcegmaaDoor
