/- The contract of lineEnd. -/
import Derived.Test.YtcdidmohgcegmaaDoorLyf
namespace Go.Proofs.YtcdidmohgcegmaaDoor
open Go.RowKit
set_option maxRecDepth 100000

def lendM (l : List Tok) (y : Ly) (i : Nat) : Except Flt Ly :=
  if openerM (tk l (i - 1)) = true ∧ y.top.width < (tk l i).col then
    (if y.regs.length = 64 then .error ⟨i, 8⟩ else .ok { y with out := y.out ++ [layM 12 (tk l i)], regs := y.regs ++ [⟨⟨#[]⟩, (tk l i).col, i⟩] })
  else match dedM y (tk l i) with
    | .error f => .error f
    | .ok z => if contM l i = true ∨ unfM (tk l (i - 1)) = true then .ok z else .ok { z with out := z.out ++ [layM 11 (tk l i)] }

theorem Gl.of_heap {w w' : World} (h : Gl w) (hs : w.heap.size ≤ w'.heap.size) (h0 : w'.heap[2]? = w.heap[2]?) (h1 : w'.heap[0]? = w.heap[0]?) : Gl w' := by
  unfold Gl at *
  rw [h0, h1]
  exact ⟨Nat.lt_of_lt_of_le h.1 hs, h.2⟩
theorem two_sit {w : World} {g : Nat} {iv : Value} {l : List Tok} {y : Ly} (h : LyAt w g iv l y) (a b : Obj) :
    Sit w ((w.alloc a).alloc b).drew g iv l y w.heap.size a ∧ Sit w ((w.alloc a).alloc b).drew g iv l y (w.heap.size + 1) b := by
  have h0 : Sit w (w.alloc a) g iv l y w.heap.size a := ⟨h.alloc a, h.apart_new a, heap_alloc_new w a, (KeepA.refl g w).alloc h.lt a⟩
  have h1 : Sit w ((w.alloc a).alloc b) g iv l y (w.alloc a).heap.size b := ⟨h0.ly.alloc b, h0.ly.apart_new b, heap_alloc_new _ b, h0.keep.alloc h0.ly.lt b⟩
  rw [show (w.alloc a).heap.size = w.heap.size + 1 by simp] at h1
  exact ⟨(h0.alloc b).drew, h1.drew⟩
/-- The two listed tables, and neither is the layouter's. -/
structure GlA (w : World) (g : Nat) : Prop where
  gl : Gl w
  a0 : Apart w g 2
  a1 : Apart w g 0
theorem GlA.keep {w w' : World} {g : Nat} (h : GlA w g) (hk : KeepA g w w') : GlA w' g :=
  ⟨h.gl.of_heap hk.size (hk.block 2 h.a0).2 (hk.block 0 h.a1).2, (hk.block 2 h.a0).1, (hk.block 0 h.a1).1⟩
theorem box_cells {w : World} {b : Nat} {t : Tok} (h : w.heap[b]? = some (tokO t)) : w.cell? ⟨b, 0, none⟩ = some (I t.kind) ∧ w.cell? ⟨b, 1, none⟩ = some (.string t.text) ∧ w.cell? ⟨b, 2, none⟩ = some (I t.pos) ∧ w.cell? ⟨b, 3, none⟩ = some (I t.line) ∧ w.cell? ⟨b, 4, none⟩ = some (I t.col) := by
  simp [cell_of_row w b _ _ _ _ h]
theorem dedK_len : ∀ (f : Nat) (y : Ly) (t : Tok) (c : Bool), 0 < y.regs.length → 0 < (dedK f y t c).2.regs.length ∧ (dedK f y t c).2.regs.length ≤ y.regs.length ∧ (dedK f y t c).2.out.length + (dedK f y t c).2.regs.length = y.out.length + y.regs.length := by
  intro f
  induction f with
  | zero => intro y t c h; exact ⟨h, Nat.le_refl _, rfl⟩
  | succ f ih =>
    intro y t c h
    rw [dedK]
    split
    · rename_i hc
      have e1 : (outM y t).regs.length = y.regs.length - 1 := by simp [outM]
      have e2 : (outM y t).out.length = y.out.length + 1 := by simp [outM]
      obtain ⟨a, b, d⟩ := ih (outM y t) t true (by have := hc.1; omega)
      have := hc.1
      exact ⟨a, by omega, by omega⟩
    · exact ⟨h, Nat.le_refl _, rfl⟩
theorem dedM_len {y z : Ly} {t : Tok} (h : dedM y t = .ok z) (h0 : 0 < y.regs.length) : 0 < z.regs.length ∧ z.regs.length ≤ y.regs.length ∧ z.out.length + z.regs.length = y.out.length + y.regs.length := by
  have h' : dedOut (dedK y.regs.length y t false) t = .ok z := h
  unfold dedOut at h'
  split at h'
  · cases h'
  · injection h' with h'
    subst h'
    exact dedK_len _ _ _ _ h0
theorem LyAt.sit {w : World} {g : Nat} {iv : Value} {l : List Tok} {y : Ly} (h : LyAt w g iv l y) (o : Obj) : Sit w (w.alloc o) g iv l y w.heap.size o :=
  ⟨h.alloc o, h.apart_new o, heap_alloc_new w o, (KeepA.refl g w).alloc h.lt o⟩
theorem Sit.sit {w0 wx : World} {g b : Nat} {iv : Value} {l : List Tok} {z : Ly} {o : Obj} (h : Sit w0 wx g iv l z b o) (o' : Obj) : Sit w0 (wx.alloc o') g iv l z wx.heap.size o' :=
  ⟨h.ly.alloc o', h.ly.apart_new o', heap_alloc_new wx o', h.keep.alloc h.ly.lt o'⟩

set_option maxRecDepth 100000 in
set_option maxHeartbeats 1600000 in
theorem lend_any {w : World} {g : Nat} {iv : Value} {l : List Tok} {y : Ly} (i : Nat) (h : LyAt w g iv l y) (hgl : GlA w g) (h0 : 0 < y.regs.length) (hb : y.regs.length ≤ 64) (hn : y.out.length + y.regs.length ≤ 1000000) (hi : i < l.length) (hi0 : 0 < i) (hl : l.length ≤ 1000000) (hku : (tk l (i - 1)).kind < 100)
    (hp : (tk l (i + 1)).pos < 1000000) (hq : i + 1 < l.length → (tk l i).pos ≤ (tk l (i + 1)).pos) (hs : (tk l i).text.size < 1000000) :
    Calls Tryd.prog 61 #[.pointer (some ⟨g, 0, none⟩), I i] w (YOut w g iv l (lendM l y i)) := by
  have HCO := Lib.hid (fun (w' : World) (z : Ly) (h' : LyAt w' g iv l z) => cont_any i h' hi hl hp hq hs)
  clear hp hq hs
  obtain ⟨ov, rv, hx⟩ := h
  obtain ⟨k, cap, rfl, hk, hin⟩ := in_form hx.inn (by omega)
  obtain ⟨c0, _⟩ := hx.cells
  have hlt := hx.lt
  have hp0 := hin i hi
  have hp1 := hin (i - 1) (by omega)
  have b0 : ((i : Int) < (l.length : Int)) := by omega
  have b1 : (((i - 1 : Nat) : Int) < (l.length : Int)) := by omega
  have e1 : IntKind.i64.wrap ((i : Int) - 1) = ((i - 1 : Nat) : Int) := by rw [show ((i : Int) - 1) = ((i - 1 : Nat) : Int) by omega]; exact IntWalk.i64_in _ (by omega)
  have HX := Lib.hid hx
  have HI := Lib.hid hin
  have HG := Lib.hid hgl
  clear hx hin hgl
  generalize hm : lendM l y i = res
  unfold lendM at hm
  have HM := Lib.hid hm
  clear hm
  generalize tk l (i - 1) = u at *
  generalize tk l i = t at *
  obtain ⟨t0, t1, t2, t3, t4⟩ := hp0
  obtain ⟨u0, u1, u2, u3, u4⟩ := hp1
  go_enter Tryd.func61, Tryd.ntmps61
  go_wp2_with fail
  go_cut [4, 5] (fun s4 s5 wx => ∃ bu bt, s4 = .pointer (some ⟨bu, 0, none⟩) ∧ s5 = .pointer (some ⟨bt, 0, none⟩) ∧ Hid (Sit w wx g (.slice (some ⟨k, 0, none⟩) l.length cap) l y bu (tokO u)) ∧ Hid (Sit w wx g (.slice (some ⟨k, 0, none⟩) l.length cap) l y bt (tokO t)))
  case first =>
    go_region
    all_goals
      go_wp2_with fail
      go_meet
    · exact ⟨_, _, rfl, rfl, Lib.hid (two_sit ⟨_, _, HX.out⟩ (tokO u) (tokO t)).1, Lib.hid (two_sit ⟨_, _, HX.out⟩ (tokO u) (tokO t)).2⟩
    · exact ⟨_, _, rfl, rfl, Lib.hid (two_sit ⟨_, _, HX.out⟩ (tokO t) (tokO u)).2, Lib.hid (two_sit ⟨_, _, HX.out⟩ (tokO t) (tokO u)).1⟩
  case rest =>
    obtain ⟨bu, bt, rfl, rfl, HU, HT⟩ := hcut
    clear c0 hlt t0 t1 t2 t3 t4 u0 u1 u2 u3 u4 b1 e1
    have hlt := HU.out.ly.lt
    have hbu := HU.out.apart.1
    have hbt := HT.out.apart.1
    obtain ⟨u0, u1, u2, u3, u4⟩ := box_cells HU.out.box
    obtain ⟨t0, t1, t2, t3, t4⟩ := box_cells HT.out.box
    go_upto_region 1 with fail
    go_cut [30] (fun s30 wx => s30 = .bool (decide (openerM u = true ∧ y.top.width < t.col)) ∧ Hid (Sit w wx g (.slice (some ⟨k, 0, none⟩) l.length cap) l y bu (tokO u)) ∧ Hid (Sit w wx g (.slice (some ⟨k, 0, none⟩) l.length cap) l y bt (tokO t)))
    case first =>
      by_cases h1 : openerM u = true
      · have HD := Lib.hid (show decide (y.top.width < t.col) = decide (openerM u = true ∧ y.top.width < t.col) by simp [h1])
        have hf1 := field_width
        (first | go_region_with (first | (go_at_call 74; refine (opener_any u _ hku).mono ?_; rintro e w' ⟨rfl, rfl⟩; rw [h1]) | (go_at_call 59; refine (innermost_agg (y := y) (l := l) (iv := .slice (some ⟨k, 0, none⟩) l.length cap) ?_ (by omega) (by omega)).mono ?_; (repeat' first | exact HU.out.ly | refine LyAt.drewN ?_ _ | refine LyAt.alloc ?_ _ | refine LyAt.drew ?_); rintro e w' ⟨rfl, n, rfl⟩)) | fail)
        all_goals
          go_wp2_with fail
          go_meet
          exact ⟨congrArg Value.bool HD.out, by (repeat' first | exact HU.out | refine Sit.drewN ?_ _ | refine Sit.alloc ?_ _ | refine Sit.drew ?_), by (repeat' first | exact HT.out | refine Sit.drewN ?_ _ | refine Sit.alloc ?_ _ | refine Sit.drew ?_)⟩
      · have HD := Lib.hid (show false = decide (openerM u = true ∧ y.top.width < t.col) by simp [h1])
        have h1' : openerM u = false := by simpa using h1
        clear h1
        (first | go_region_with (first | (go_at_call 74; refine (opener_any u _ hku).mono ?_; rintro e w' ⟨rfl, rfl⟩; rw [h1'])) | fail)
        all_goals
          go_wp2_with fail
          go_meet
          exact ⟨congrArg Value.bool HD.out, by (repeat' first | exact HU.out | refine Sit.drewN ?_ _ | refine Sit.alloc ?_ _ | refine Sit.drew ?_), by (repeat' first | exact HT.out | refine Sit.drewN ?_ _ | refine Sit.alloc ?_ _ | refine Sit.drew ?_)⟩
    case rest =>
      obtain ⟨rfl, HU2, HT2⟩ := hcut
      clear HU HT hlt hbu hbt u0 u1 u2 u3 u4 t0 t1 t2 t3 t4
      obtain ⟨u0, u1, u2, u3, u4⟩ := box_cells HU2.out.box
      obtain ⟨t0, t1, t2, t3, t4⟩ := box_cells HT2.out.box
      by_cases hc : openerM u = true ∧ y.top.width < t.col
      · have hdq : decide (openerM u = true ∧ y.top.width < t.col) = true := decide_eq_true hc
        have HM2 : Hid ((if y.regs.length = 64 then Except.error ⟨i, 8⟩ else Except.ok { y with out := y.out ++ [layM 12 t], regs := y.regs ++ [⟨⟨#[]⟩, t.col, i⟩] }) = res) := Lib.hid (by have := HM.out; rw [if_pos hc] at this; exact this)
        rw [hdq]
        clear hdq hc HM
        go_wp2_with fail
        refine (lyput_any 12 t HT2.out.ly (by omega)).mono ?_
        rintro e w3 ⟨rfl, h3, k3⟩
        have HS3 := Lib.hid (HT2.out.step h3 k3)
        clear u0 u1 u2 u3 u4 t0 t1 t2 t3 t4 h3 k3
        obtain ⟨_, _, _, _, t4⟩ := box_cells HS3.out.box
        go_wp2_with fail
        by_cases h64 : y.regs.length = 64
        · obtain rfl : Except.error ⟨i, 8⟩ = res := by have := HM2.out; rw [if_pos h64] at this; exact this
          refine (lypush_deep ⟨⟨#[]⟩, t.col, i⟩ HS3.out.ly h64).mono ?_
          rintro e w4 ⟨rfl, k4⟩
          go_wp2_with fail
          exact ⟨rfl, rfl, HS3.out.keep.trans k4⟩
        · obtain rfl : Except.ok { y with out := y.out ++ [layM 12 t], regs := y.regs ++ [⟨⟨#[]⟩, t.col, i⟩] } = res := by have := HM2.out; rw [if_neg h64] at this; exact this
          refine (lypush_any ⟨⟨#[]⟩, t.col, i⟩ HS3.out.ly (by show y.regs.length < 64; omega)).mono ?_
          rintro e w4 ⟨rfl, h4, k4⟩
          go_wp2_with fail
          go_end0
          exact ⟨rfl, h4, HS3.out.keep.trans k4⟩
      · have hdq : decide (openerM u = true ∧ y.top.width < t.col) = false := decide_eq_false hc
        have HM2 : Hid ((match dedM y t with
          | .error f => .error f
          | .ok z => if contM l i = true ∨ unfM u = true then .ok z else .ok { z with out := z.out ++ [layM 11 t] }) = res) := Lib.hid (by have := HM.out; rw [if_neg hc] at this; exact this)
        rw [hdq]
        clear hdq hc HM
        go_wp2_with fail
        refine (dedent_any t HT2.out.ly h0 hb hn).mono ?_
        rintro e w3 h3
        generalize hdm : dedM y t = dm at h3
        have HMD := Lib.hid hdm
        clear hdm
        cases dm with
        | error f =>
          obtain rfl : Except.error f = res := by have := HM2.out; rw [HMD.out] at this; exact this
          obtain ⟨rfl, k3⟩ := h3
          go_wp2_with fail
          exact ⟨rfl, rfl, HT2.out.keep.trans k3⟩
        | ok z =>
          obtain ⟨rfl, h3, k3⟩ := h3
          obtain ⟨z0, z1, z2⟩ := dedM_len HMD.out h0
          have HM3 := Lib.hid (show (if contM l i = true ∨ unfM u = true then Except.ok z else Except.ok { z with out := z.out ++ [layM 11 t] }) = res by have := HM2.out; rw [HMD.out] at this; exact this)
          have HS3 := Lib.hid (HT2.out.step h3 k3)
          have HU3 := Lib.hid (HU2.out.step h3 k3)
          have HG3 := Lib.hid (HG.out.keep HS3.out.keep)
          clear u0 u1 u2 u3 u4 t0 t1 t2 t3 t4 h3 k3 HU2 HT2 HM2 HMD
          obtain ⟨u0, u1, u2, u3, u4⟩ := box_cells HU3.out.box
          obtain ⟨t0, t1, t2, t3, t4⟩ := box_cells HS3.out.box
          have hbu := HU3.out.apart.1
          have hbt := HS3.out.apart.1
          by_cases hcn : contM l i = true
          · obtain rfl : Except.ok z = res := by have := HM3.out; rw [if_pos (.inl hcn)] at this; exact this
            go_wp2_with (go_at_call 78; refine (HCO.out _ z HS3.out.ly).mono ?_; rintro e w' ⟨rfl, n, rfl⟩; rw [hcn])
            go_end0
            exact ⟨rfl, (HS3.out.ly.alloc _).drewN _, (HS3.out.keep.alloc HS3.out.ly.lt _).drewN _⟩
          · have hcn' : contM l i = false := by simpa using hcn
            by_cases hun : unfM u = true
            · obtain rfl : Except.ok z = res := by have := HM3.out; rw [if_pos (.inr hun)] at this; exact this
              go_wp2_with (first | (go_at_call 78; refine (HCO.out _ z HS3.out.ly).mono ?_; rintro e w' ⟨rfl, n, rfl⟩; rw [hcn']) | (go_at_call 79; refine (unf_any u _ (Gl.drewN (Gl.alloc HG3.out.gl _) _)).mono ?_; rintro e w' ⟨rfl, rfl⟩; rw [hun]))
              go_end0
              exact ⟨rfl, ((HS3.out.ly.alloc _).drewN _).alloc _, ((HS3.out.keep.alloc HS3.out.ly.lt _).drewN _).alloc (by have := HS3.out.ly.lt; simp; omega) _⟩
            · have hun' : unfM u = false := by simpa using hun
              obtain rfl : Except.ok { z with out := z.out ++ [layM 11 t] } = res := by have := HM3.out; rw [if_neg (by rintro (h | h); exact hcn h; exact hun h)] at this; exact this
              clear hcn hun
              go_wp2_with (first | (go_at_call 78; refine (HCO.out _ z HS3.out.ly).mono ?_; rintro e w' ⟨rfl, n, rfl⟩; rw [hcn']) | (go_at_call 79; refine (unf_any u _ (Gl.drewN (Gl.alloc HG3.out.gl _) _)).mono ?_; rintro e w' ⟨rfl, rfl⟩; rw [hun']))
              have HL4 := Lib.hid (((HS3.out.ly.alloc (tokO t)).drewN n).alloc (tokO u))
              have HK4 := Lib.hid (((HS3.out.keep.alloc HS3.out.ly.lt (tokO t)).drewN n).alloc (by have := HS3.out.ly.lt; simp; omega) (tokO u))
              refine (lyput_any 11 t HL4.out (by omega)).mono ?_
              rintro e w5 ⟨rfl, h5, k5⟩
              go_wp2_with fail
              go_end0
              exact ⟨rfl, h5, HK4.out.trans k5⟩
end Go.Proofs.YtcdidmohgcegmaaDoor
