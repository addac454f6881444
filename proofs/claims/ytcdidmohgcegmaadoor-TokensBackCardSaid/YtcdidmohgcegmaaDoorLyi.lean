/- The contract of stop. -/
import Derived.Test.YtcdidmohgcegmaaDoorLyg
import Derived.Test.YtcdidmohgcegmaaDoorLyh
namespace Go.Proofs.YtcdidmohgcegmaaDoor
open Go.RowKit
set_option maxRecDepth 100000

theorem one_sit {w : World} {g : Nat} {iv : Value} {l : List Tok} {y : Ly} (h : LyAt w g iv l y) (a b : Obj) : Sit w ((w.alloc a).drew.alloc b) g iv l y (w.heap.size + 1) b := by
  have h0 : Sit w (w.alloc a).drew g iv l y w.heap.size a := ⟨(h.alloc a).drew, h.apart_new a, heap_alloc_new w a, ((KeepA.refl g w).alloc h.lt a).drew⟩
  have h1 := h0.sit b
  rw [show (w.alloc a).drew.heap.size = w.heap.size + 1 by simp] at h1
  exact h1
def endTok (l : List Tok) : Tok := ⟨14, ⟨#[]⟩, (tk l (l.length - 1)).pos + 1, (tk l (l.length - 1)).line + 1, 0⟩
def stopK : Nat → Ly → Tok → Except Flt Ly
  | 0, y, t => .ok { y with out := y.out ++ [t] }
  | f + 1, y, t => if 1 < y.regs.length then (if y.top.ind = true then stopK f (outM y t) t else .error ⟨y.top.index, 27⟩) else .ok { y with out := y.out ++ [t] }
def stopM (l : List Tok) (y : Ly) : Except Flt Ly := stopK y.regs.length y (endTok l)

attribute [local go_sem ↓ high] builtin_app
set_option maxRecDepth 100000 in
set_option maxHeartbeats 1600000 in
theorem stop_any {w : World} {g : Nat} {iv : Value} {l : List Tok} {y : Ly} (h : LyAt w g iv l y) (h0 : 0 < y.regs.length) (hb : y.regs.length ≤ 64) (hn : y.out.length + y.regs.length ≤ 900000) (hl0 : 0 < l.length) (hl : l.length ≤ 1000000)
    (hp : (tk l (l.length - 1)).pos < 1000000) (hq : (tk l (l.length - 1)).line < 1000000) :
    Calls Tryd.prog 63 #[.pointer (some ⟨g, 0, none⟩)] w (YOut w g iv l (stopM l y)) := by
  generalize hm : stopM l y = res
  unfold stopM endTok at hm
  have HM := Lib.hid hm
  clear hm
  have HL0 := Lib.hid h
  obtain ⟨ov, rv, hx⟩ := h
  obtain ⟨k, cap, rfl, hk, hin⟩ := in_form hx.inn hl0
  obtain ⟨c0, _⟩ := hx.cells
  have hlt := hx.lt
  obtain ⟨t0, t1, t2, t3, t4⟩ := hin (l.length - 1) (by omega)
  have b1 : (((l.length - 1 : Nat) : Int) < (l.length : Int)) := by omega
  have e1 : IntKind.i64.wrap ((l.length : Int) - 1) = ((l.length - 1 : Nat) : Int) := by rw [show ((l.length : Int) - 1) = ((l.length - 1 : Nat) : Int) by omega]; exact IntWalk.i64_in _ (by omega)
  clear hx hin
  generalize tk l (l.length - 1) = t at *
  obtain ⟨kind, text, pos, line, col⟩ := t
  dsimp only at *
  have w1 : IntKind.i64.wrap ((pos : Int) + 1) = ((pos + 1 : Nat) : Int) := by rw [show ((pos : Int) + 1) = ((pos + 1 : Nat) : Int) by omega]; exact IntWalk.i64_in _ (by omega)
  have w2 : IntKind.i64.wrap ((line : Int) + 1) = ((line + 1 : Nat) : Int) := by rw [show ((line : Int) + 1) = ((line + 1 : Nat) : Int) by omega]; exact IntWalk.i64_in _ (by omega)
  have HS0 : Hid (Sit w ((w.alloc (.cells #[.int .i64 kind, .string text, .int .i64 pos, .int .i64 line, .int .i64 col] 34 (0, 0))).drew.alloc (.cells #[.int .i64 14, .string ⟨#[]⟩, I (pos + 1), I (line + 1), .int .i64 0] 34 (0, 0))) g (.slice (some ⟨k, 0, none⟩) l.length cap) l y (w.heap.size + 1) (.cells #[.int .i64 14, .string ⟨#[]⟩, I (pos + 1), I (line + 1), .int .i64 0] 34 (0, 0))) := Lib.hid (one_sit HL0.out _ _)
  go_enter Tryd.func63, Tryd.ntmps63
  go_wp2_with fail
  go_region
  go_wp2_with fail
  go_loopg [] y.regs.length (fun n wr => ∃ z : Ly, Hid (n = z.regs.length) ∧ 0 < z.regs.length ∧ z.regs.length ≤ 64 ∧ Hid (z.out.length + z.regs.length ≤ 900000) ∧
    Hid (∃ f, z.regs.length ≤ f ∧ stopK f z ⟨14, ⟨#[]⟩, pos + 1, line + 1, 0⟩ = res) ∧ Hid (Sit w wr g (.slice (some ⟨k, 0, none⟩) l.length cap) l z (w.heap.size + 1) (.cells #[.int .i64 14, .string ⟨#[]⟩, I (pos + 1), I (line + 1), .int .i64 0] 34 (0, 0))))
  case atStart => exact ⟨y, rfl, h0, hb, hn, ⟨_, Nat.le_refl _, HM.out⟩, HS0.out⟩
  case round =>
    obtain ⟨z, HN, hz0, hz1, HL, HF, HZ⟩ := hrel
    clear HS0 HM c0 hlt t0 t1 t2 t3 t4 b1 e1 w1 w2 HL0
    obtain ⟨A, cap', c2⟩ := HZ.out.ly.regCell
    have hlt := HZ.out.ly.lt
    have hbl := HZ.out.apart.1
    obtain ⟨b0, b1, b2, b3, b4⟩ := box_cells' (t := ⟨14, ⟨#[]⟩, pos + 1, line + 1, 0⟩) HZ.out.box
    by_cases h1 : 1 < z.regs.length
    · have d1 : decide ((1 : Int) < (z.regs.length : Int)) = true := decide_eq_true (by omega)
      obtain ⟨f, hf, HC⟩ : ∃ f, z.regs.length ≤ f + 1 ∧ Hid ((if z.top.ind = true then stopK f (outM z ⟨14, ⟨#[]⟩, pos + 1, line + 1, 0⟩) ⟨14, ⟨#[]⟩, pos + 1, line + 1, 0⟩ else .error ⟨z.top.index, 27⟩) = res) := by
        obtain ⟨f, hf, hc⟩ := HF.out
        cases f with
        | zero => omega
        | succ f => exact ⟨f, hf, by rw [stopK, if_pos h1] at hc; exact hc⟩
      clear HF
      go_wp2_with (first | (go_at_call 59; refine (innermost_agg (y := z) (l := l) (iv := .slice (some ⟨k, 0, none⟩) l.length cap) ?_ (by omega) (by omega)).mono ?_; (repeat' first | exact HZ.out.ly | refine LyAt.drewN ?_ _ | refine LyAt.alloc ?_ _ | refine LyAt.drew ?_); rintro e w' ⟨rfl, n, rfl⟩))
      have h6 := fun n o => new_three wr z.top n o
      have HY := Lib.hid ((((HZ.out.alloc (rgO z.top)).drewN n).alloc (.cells #[.string z.top.mark, .int .i64 z.top.width, .int .i64 z.top.index] 85)).alloc (rgO z.top))
      by_cases hI : z.top.ind = true
      · have HC2 : Hid (stopK f (outM z ⟨14, ⟨#[]⟩, pos + 1, line + 1, 0⟩) ⟨14, ⟨#[]⟩, pos + 1, line + 1, 0⟩ = res) := Lib.hid (by have := HC.out; rw [if_pos hI] at this; exact this)
        clear HC
        refine (ind_any z.top _).mono ?_
        rintro e w' ⟨rfl, rfl⟩
        rw [hI]
        clear hI
        have g0 := cell_three b0 hbl
        have g1 := cell_three b1 hbl
        have g2 := cell_three b2 hbl
        have g3 := cell_three b3 hbl
        have g4 := cell_three b4 hbl
        go_wp2_with fail
        refine (outdent_any ⟨14, ⟨#[]⟩, pos + 1, line + 1, 0⟩ HY.out.ly hz0 (by omega) (by have := HL.out; omega)).mono ?_
        rintro e w3 ⟨rfl, h3, k3⟩
        have HX := Lib.hid (HY.out.step h3 k3)
        clear h3 k3
        go_wp2_with fail
        go_roundg (z.regs.length - 1)
        case measure => have := HN.out; omega
        case rel =>
          have e1 : (outM z ⟨14, ⟨#[]⟩, pos + 1, line + 1, 0⟩).regs.length = z.regs.length - 1 := by simp [outM]
          have e2 : (outM z ⟨14, ⟨#[]⟩, pos + 1, line + 1, 0⟩).out.length = z.out.length + 1 := by simp [outM]
          refine ⟨outM z ⟨14, ⟨#[]⟩, pos + 1, line + 1, 0⟩, Lib.hid e1.symm, by omega, by omega, Lib.hid (by have := HL.out; omega), ⟨f, by omega, HC2.out⟩, HX.out⟩
      · have hI' : z.top.ind = false := by simpa using hI
        obtain rfl : Except.error ⟨z.top.index, 27⟩ = res := by have := HC.out; rw [if_neg hI] at this; exact this
        clear HC hI
        refine (ind_any z.top _).mono ?_
        rintro e w' ⟨rfl, rfl⟩
        rw [hI']
        have h7 := fun n o => (h6 n o).2
        go_wp2_with (go_at_call 49; refine (fail_any _ _ _).mono ?_; rintro e w' ⟨rfl, rfl⟩)
        exact ⟨rfl, rfl, HY.out.keep⟩
    · have d1 : decide ((1 : Int) < (z.regs.length : Int)) = false := decide_eq_false (by omega)
      obtain rfl : Except.ok { z with out := z.out ++ [⟨14, ⟨#[]⟩, pos + 1, line + 1, 0⟩] } = res := by
        obtain ⟨f, hf, hc⟩ := HF.out
        cases f with
        | zero => omega
        | succ f => rw [stopK, if_neg h1] at hc; exact hc
      clear HF
      obtain ⟨ov', rv', hz⟩ := HZ.out.ly
      have HA := Lib.hid ((hz.alloc (.cells #[I 14, .string ⟨#[]⟩, I (pos + 1), I (line + 1), I 0] 34)).drew)
      obtain ⟨_, c1, _, _⟩ := hz.cells
      obtain ⟨_, p1, _, _⟩ := HA.out.cells
      have q1f := HA.out.frozen 1
      obtain ⟨i0, hi, hz0, hz1, hz2⟩ := info_parts info32'
      have HI := Lib.hid (And.intro hi (And.intro hz0 (And.intro hz1 hz2)))
      clear hi hz0 hz1 hz2
      have hz1000 : z.out.length ≤ 900000 := by have := HL.out; omega
      obtain ⟨gg, cap, w1, hr, hown1, hgrow, hat, hlt1⟩ := run_append_lies (P := Tryd.prog) ((wr.alloc (.cells #[I 14, .string ⟨#[]⟩, I (pos + 1), I (line + 1), I 0] 34)).drew) 25 25 0 34 i0 _ 5 48 Tryd.underlying25 HI.out.1 HI.out.2.1 HI.out.2.2.1 HI.out.2.2.2 rfl (by omega) ov' z.out.length (z.out.flatMap Tok.cells) HA.out.out
            ⟨wr.heap.size, 0, none⟩ 1 1 [I 14, .string ⟨#[]⟩, I (pos + 1), I (line + 1), I 0] (by rfl) (World.news_of_block (cs := #[I 14, .string ⟨#[]⟩, I (pos + 1), I (line + 1), I 0]) (t := 34) (fr := (0, 0)) (heap_alloc_new wr _)) (by simp [Value.oneCell'])
            (by omega) (by unfold maxLen; omega) (by omega) (by simp) (wr.heap.size + 1) (by simp)
      have q1 : w1.cell? ⟨g, 1, none⟩ = some ov' := (hgrow.cell_far _ (by simp; omega) (Ne.symm hz.og)).trans p1
      have q1f : w1.frozen? ⟨g, 1, none⟩ = false := (hgrow.frozen_far _ (by simp; omega) (Ne.symm hz.og)).trans q1f
      have HP := Lib.hid (HA.out.pushOut (t := ⟨14, ⟨#[]⟩, pos + 1, line + 1, 0⟩) hgrow hown1 (hat.imp_right fun e => by simpa using e))
      have HKZ := Lib.hid HZ.out.keep
      clear hown1 hgrow hat hz
      have hra : (App #[25, 25] 25 #[ov', .slice (some ⟨wr.heap.size, 0, none⟩) 1 1]).run Tryd.prog ((wr.alloc (.cells #[I 14, .string ⟨#[]⟩, I (pos + 1), I (line + 1), I 0] 34)).drew) = .ok (.slice (some ⟨gg, 0, none⟩) (z.out.length + 1) cap) w1 := hr
      clear hr
      go_wp2_with fail
      go_region
      go_wp2
      go_end0
      refine ⟨rfl, ⟨_, _, HP.out.1⟩, ?_⟩
      exact ((HKZ.out.alloc hlt _).drew).trans HP.out.2
end Go.Proofs.YtcdidmohgcegmaaDoor
