/- Contracts of the small functions of the layouter: the innermost region, one more token, one region more or less. -/
import Derived.Test.YtcdidmohgcegmaaDoorLyb
namespace Go.Proofs.YtcdidmohgcegmaaDoor
open Go.RowKit
set_option maxRecDepth 100000

def botR : Rg := ⟨⟨#[]⟩, 0, 0⟩
def Ly.top (y : Ly) : Rg := y.regs.getLast?.getD botR
theorem regs_at (l : List Rg) (k : Nat) (h : k < l.length) (d : Value) :
    (l.flatMap Rg.cells).getD (k * 3) d = .string (l.getD k botR).mark ∧ (l.flatMap Rg.cells).getD (k * 3 + 1) d = I (l.getD k botR).width ∧ (l.flatMap Rg.cells).getD (k * 3 + 2) d = I (l.getD k botR).index := by
  induction l generalizing k with
  | nil => simp at h
  | cons a t ih =>
    cases k with
    | zero => simp [Rg.cells]
    | succ k =>
      have := ih k (by simpa using h)
      have e1 : (k + 1) * 3 = (k * 3) + 3 := by omega
      simpa [Rg.cells, e1] using this
theorem top_at (y : Ly) (_h : 0 < y.regs.length) : y.regs.getD (y.regs.length - 1) botR = y.top := by
  simp [Ly.top, List.getLast?_eq_getElem?, List.getD]

theorem own_cells {w : World} {B e sz n : Nat} {v : Value} {xs : List Value} (h : w.ownsRow B e sz v n xs) (hn : 0 < n) : ∃ k cap cur, v = .slice (some ⟨k, 0, none⟩) n cap ∧ w.heap[k]? = some (.cells cur e (0, 0)) ∧ n ≤ cap ∧ ∀ j, j < n * sz → cur[j]? = xs[j]? := by
  rcases h.2 with ⟨_, h2⟩ | ⟨k, cap, cur, hv, _, hh, hcap, _, _, hr⟩
  · omega
  · refine ⟨k, cap, cur, hv, hh, hcap, fun j hj => ?_⟩
    rw [← hr, List.getElem?_take_of_lt hj]
    simp
theorem regs_getElem (l : List Rg) (k : Nat) (h : k < l.length) :
    (l.flatMap Rg.cells)[k * 3]? = some (.string (l.getD k botR).mark) ∧ (l.flatMap Rg.cells)[k * 3 + 1]? = some (I (l.getD k botR).width) ∧ (l.flatMap Rg.cells)[k * 3 + 2]? = some (I (l.getD k botR).index) := by
  induction l generalizing k with
  | nil => simp at h
  | cons a t ih =>
    cases k with
    | zero => simp [Rg.cells]
    | succ k =>
      have := ih k (by simpa using h)
      have e1 : (k + 1) * 3 = (k * 3) + 3 := by omega
      have e2 : (k * 3) + 3 + 1 = (k * 3 + 1) + 3 := by omega
      have e3 : (k * 3) + 3 + 2 = (k * 3 + 2) + 3 := by omega
      rw [e1, e2, e3]
      simpa [Rg.cells, List.flatMap_cons] using this
/-- The three cells of the innermost region, in any world with the same blocks. -/
theorem top_cells {w : World} {rv : Value} {y : Ly} (h : w.ownsRow 0 85 3 rv y.regs.length (y.regs.flatMap Rg.cells)) (h0 : 0 < y.regs.length) :
    ∃ k cap, rv = .slice (some ⟨k, 0, none⟩) y.regs.length cap ∧ k < w.heap.size ∧ y.regs.length ≤ cap ∧ w.cell? ⟨k, (y.regs.length - 1) * 3, none⟩ = some (.string y.top.mark) ∧ w.cell? ⟨k, (y.regs.length - 1) * 3 + 1, none⟩ = some (I y.top.width) ∧
      w.cell? ⟨k, (y.regs.length - 1) * 3 + 2, none⟩ = some (I y.top.index) := by
  obtain ⟨k, cap, cur, hv, hh, hcap, hr⟩ := own_cells h h0
  obtain ⟨e1, e2, e3⟩ := regs_getElem y.regs (y.regs.length - 1) (by omega)
  rw [top_at y h0] at e1 e2 e3
  refine ⟨k, cap, hv, heap_lt hh, hcap, ?_, ?_, ?_⟩
  · rw [cell_of_row w k _ _ _ _ hh, ← e1]; exact hr _ (by omega)
  · rw [cell_of_row w k _ _ _ _ hh, ← e2]; exact hr _ (by omega)
  · rw [cell_of_row w k _ _ _ _ hh, ← e3]; exact hr _ (by omega)

set_option maxHeartbeats 800000 in
theorem innermost_any {w : World} {g : Nat} {iv : Value} {l : List Tok} {y : Ly} (h : LyAt w g iv l y) (h0 : 0 < y.regs.length) (hb : y.regs.length < 1000) :
    Calls Tryd.prog 59 #[.pointer (some ⟨g, 0, none⟩)] w fun e w' => e = .returned (rgV y.top) ∧ ∃ n, w' = (w.alloc (rgO y.top)).drewN n := by
  obtain ⟨ov, rv, h⟩ := h
  obtain ⟨k, cap, rfl, hk, hcap, t0, t1, t2⟩ := top_cells h.reg h0
  obtain ⟨_, _, hc2, _⟩ := h.cells
  have hlt := h.lt
  have e1 : IntKind.i64.wrap ((y.regs.length : Int) - 1) = ((y.regs.length - 1 : Nat) : Int) := by rw [show ((y.regs.length : Int) - 1) = ((y.regs.length - 1 : Nat) : Int) by omega]; exact IntWalk.i64_in _ (by omega)
  generalize y.top = r at t0 t1 t2 ⊢
  obtain ⟨mark, width, index⟩ := r
  unfold rgV rgO
  dsimp only at t0 t1 t2 ⊢
  clear h
  go_enter Tryd.func59, Tryd.ntmps59
  go_wp2_with fail
  go_region
  go_wp2_with fail
  have c : (w.alloc (.cells #[.string mark, I width, I index] 85)).drew.cell? ⟨w.heap.size, 0, none⟩ = some (.string mark) ∧ (w.alloc (.cells #[.string mark, I width, I index] 85)).drew.cell? ⟨w.heap.size, 1, none⟩ = some (I width) ∧
      (w.alloc (.cells #[.string mark, I width, I index] 85)).drew.cell? ⟨w.heap.size, 2, none⟩ = some (I index) := by
    simp [cell_of_row _ _ _ _ _ _ (heap_alloc_new w (.cells #[.string mark, I width, I index] 85)), World.cell?_drew]
  obtain ⟨c0, c1, c2⟩ := c
  refine bodyPost_ret (v := .agg #[.string mark, I width, I index]) (by simp [results, Tryd.results59, go_sem, c0, c1, c2]) rfl ⟨rfl, 1, rfl⟩

theorem info32' : (Tryd.prog.info? 34).map (fun i => (i.zero, i.size, i.bytes)) = some (some (.agg #[.int .i64 0, .string ByteArray.empty, .int .i64 0, .int .i64 0, .int .i64 0]), 5, 48) := by kernel_rfl
theorem info77 : (Tryd.prog.info? 85).map (fun i => (i.zero, i.size, i.bytes)) = some (some (.agg #[.string ByteArray.empty, .int .i64 0, .int .i64 0]), 3, 32) := by kernel_rfl
theorem heap_new2 (w : World) (a b : Obj) : ((w.alloc a).alloc b).drew.heap[w.heap.size + 1]? = some b := by
  have := heap_alloc_new (w.alloc a) b
  rw [show (w.alloc a).heap.size = w.heap.size + 1 by simp] at this
  exact this
def layM (k : Nat) (t : Tok) : Tok := ⟨k, ⟨#[]⟩, t.pos, t.line, t.col⟩

attribute [local go_sem ↓ high] builtin_app
set_option maxRecDepth 100000 in
set_option maxHeartbeats 1000000 in
theorem lyput_any {w : World} {g : Nat} {iv : Value} {l : List Tok} {y : Ly} (kind : Nat) (t : Tok) (h : LyAt w g iv l y) (hb : y.out.length ≤ 1000000) :
    Calls Tryd.prog 75 #[.pointer (some ⟨g, 0, none⟩), I kind, tokV t] w fun e w' => e = .returned (.tuple #[]) ∧ LyAt w' g iv l { y with out := y.out ++ [layM kind t] } ∧ KeepA g w w' := by
  obtain ⟨ov, rv, h⟩ := h
  obtain ⟨tk, tt, pos, line, col⟩ := t
  unfold tokV layM
  dsimp only
  have hlt := h.lt
  have HB := Lib.hid (h.alloc (.cells #[I tk, .string tt, I pos, I line, I col] 34))
  have HA := Lib.hid (((h.alloc (.cells #[I tk, .string tt, I pos, I line, I col] 34)).alloc (.cells #[I kind, .string ⟨#[]⟩, I pos, I line, I col] 34)).drew)
  obtain ⟨_, c1, _, _⟩ := HB.out.cells
  obtain ⟨_, p1, _, _⟩ := HA.out.cells
  have q1f := HA.out.frozen 1
  have HG0 := Lib.hid h
  obtain ⟨i0, hi, hz0, hz1, hz2⟩ := info_parts info32'
  have HI := Lib.hid (And.intro hi (And.intro hz0 (And.intro hz1 hz2)))
  clear hi hz0 hz1 hz2
  obtain ⟨gg, cap, w1, hr, hown1, hgrow, hat, hlt1⟩ := run_append_lies (P := Tryd.prog) (((w.alloc (.cells #[I tk, .string tt, I pos, I line, I col] 34)).alloc (.cells #[I kind, .string ⟨#[]⟩, I pos, I line, I col] 34)).drew) 25 25 0 34 i0 _ 5 48 Tryd.underlying25 HI.out.1 HI.out.2.1 HI.out.2.2.1 HI.out.2.2.2 rfl (by omega) ov y.out.length (y.out.flatMap Tok.cells) HA.out.out
        ⟨w.heap.size + 1, 0, none⟩ 1 1 [I kind, .string ⟨#[]⟩, I pos, I line, I col] (by rfl) (World.news_of_block (cs := #[I kind, .string ⟨#[]⟩, I pos, I line, I col]) (t := 34) (fr := (0, 0)) (heap_new2 w _ _)) (by simp [Value.oneCell'])
        (by omega) (by unfold maxLen; omega) (by omega) (by simp) (w.heap.size + 2) (by simp)
  have q1 : w1.cell? ⟨g, 1, none⟩ = some ov := (hgrow.cell_far _ (by simp; omega) (Ne.symm h.og)).trans p1
  have q1f : w1.frozen? ⟨g, 1, none⟩ = false := (hgrow.frozen_far _ (by simp; omega) (Ne.symm h.og)).trans q1f
  have HP := Lib.hid (HA.out.pushOut (t := ⟨kind, ⟨#[]⟩, pos, line, col⟩) hgrow hown1 (hat.imp_right fun e => by simpa using e))
  clear hown1 hgrow hat h
  have hra : (App #[25, 25] 25 #[ov, .slice (some ⟨w.heap.size + 1, 0, none⟩) 1 1]).run Tryd.prog (((w.alloc (.cells #[I tk, .string tt, I pos, I line, I col] 34)).alloc (.cells #[I kind, .string ⟨#[]⟩, I pos, I line, I col] 34)).drew) = .ok (.slice (some ⟨gg, 0, none⟩) (y.out.length + 1) cap) w1 := hr
  clear hr
  go_enter Tryd.func75, Tryd.ntmps75
  go_wp2_with fail
  go_region
  go_wp2
  go_end0
  refine ⟨rfl, ⟨_, _, HP.out.1⟩, ?_⟩
  exact ((((KeepA.refl g w).alloc hlt _).alloc (by simp; omega) _).drew).trans HP.out.2

set_option maxRecDepth 100000 in
set_option maxHeartbeats 1000000 in
theorem lypush_any {w : World} {g : Nat} {iv : Value} {l : List Tok} {y : Ly} (t : Rg) (h : LyAt w g iv l y) (hb : y.regs.length < 64) :
    Calls Tryd.prog 76 #[.pointer (some ⟨g, 0, none⟩), rgV t] w fun e w' => e = .returned (.tuple #[]) ∧ LyAt w' g iv l { y with regs := y.regs ++ [t] } ∧ KeepA g w w' := by
  obtain ⟨ov, rv, h⟩ := h
  obtain ⟨mark, width, index⟩ := t
  unfold rgV
  dsimp only
  have hlt := h.lt
  have h64 : ((y.regs.length : Int) == 64) = false := by simp; omega
  obtain ⟨A, cap0, hrv⟩ : ∃ A cap, rv = .slice A y.regs.length cap := by
    rcases h.reg.2 with ⟨rfl, h2⟩ | ⟨k, cap, cur, rfl, _⟩
    · exact ⟨_, _, by rw [h2]⟩
    · exact ⟨_, cap, rfl⟩
  subst hrv
  have HB := Lib.hid (h.alloc (.cells #[.string mark, I width, I index] 85))
  have HA := Lib.hid (((h.alloc (.cells #[.string mark, I width, I index] 85)).alloc (.cells #[.string mark, I width, I index] 85)).drew)
  obtain ⟨_, _, c2, _⟩ := HB.out.cells
  obtain ⟨_, _, p2, _⟩ := HA.out.cells
  have q2f := HA.out.frozen 2
  obtain ⟨i0, hi, hz0, hz1, hz2⟩ := info_parts info77
  have HI := Lib.hid (And.intro hi (And.intro hz0 (And.intro hz1 hz2)))
  clear hi hz0 hz1 hz2
  obtain ⟨gg, cap, w1, hr, hown1, hgrow, hat, hlt1⟩ := run_append_lies (P := Tryd.prog) (((w.alloc (.cells #[.string mark, I width, I index] 85)).alloc (.cells #[.string mark, I width, I index] 85)).drew) 72 72 0 85 i0 _ 3 32 Tryd.underlying72 HI.out.1 HI.out.2.1 HI.out.2.2.1 HI.out.2.2.2 rfl (by omega) (.slice A y.regs.length cap0) y.regs.length (y.regs.flatMap Rg.cells) HA.out.reg
        ⟨w.heap.size + 1, 0, none⟩ 1 1 [.string mark, I width, I index] (by rfl) (World.news_of_block (cs := #[.string mark, I width, I index]) (t := 85) (fr := (0, 0)) (heap_new2 w _ _)) (by simp [Value.oneCell'])
        (by omega) (by unfold maxLen; omega) (by omega) (by simp) (w.heap.size + 2) (by simp)
  have q2 : w1.cell? ⟨g, 2, none⟩ = some (.slice A y.regs.length cap0) := (hgrow.cell_far _ (by simp; omega) (Ne.symm h.rg)).trans p2
  have q2f : w1.frozen? ⟨g, 2, none⟩ = false := (hgrow.frozen_far _ (by simp; omega) (Ne.symm h.rg)).trans q2f
  have HP := Lib.hid (HA.out.pushReg (t := ⟨mark, width, index⟩) hgrow hown1 (hat.imp_right fun e => by simpa using e))
  clear hown1 hgrow hat h
  have hra : (App #[72, 72] 72 #[.slice A y.regs.length cap0, .slice (some ⟨w.heap.size + 1, 0, none⟩) 1 1]).run Tryd.prog (((w.alloc (.cells #[.string mark, I width, I index] 85)).alloc (.cells #[.string mark, I width, I index] 85)).drew) = .ok (.slice (some ⟨gg, 0, none⟩) (y.regs.length + 1) cap) w1 := hr
  clear hr
  go_enter Tryd.func76, Tryd.ntmps76
  go_wp2_with fail
  go_region
  go_wp2
  go_end0
  refine ⟨rfl, ⟨_, _, HP.out.1⟩, ?_⟩
  exact ((((KeepA.refl g w).alloc hlt _).alloc (by simp; omega) _).drew).trans HP.out.2
set_option maxHeartbeats 1000000 in
theorem lypush_deep {w : World} {g : Nat} {iv : Value} {l : List Tok} {y : Ly} (t : Rg) (h : LyAt w g iv l y) (hb : y.regs.length = 64) :
    Calls Tryd.prog 76 #[.pointer (some ⟨g, 0, none⟩), rgV t] w fun e w' => e = .panicked [{ v := .iface 28 (fltV ⟨t.index, 8⟩), recovered := false }] ∧ KeepA g w w' := by
  obtain ⟨ov, rv, h⟩ := h
  obtain ⟨mark, width, index⟩ := t
  unfold rgV
  dsimp only
  have hlt := h.lt
  obtain ⟨A, cap0, hrv⟩ : ∃ A cap, rv = .slice A 64 cap := by
    rcases h.reg.2 with ⟨rfl, h⟩ | ⟨k, cap, cur, rfl, _⟩
    · omega
    · exact ⟨_, cap, by rw [hb]⟩
  subst hrv
  have HB := Lib.hid (h.alloc (.cells #[.string mark, I width, I index] 85))
  obtain ⟨_, _, c2, _⟩ := HB.out.cells
  clear h hb
  go_enter Tryd.func76, Tryd.ntmps76
  go_wp2_with (go_at_call 49; refine (fail_any _ _ _).mono ?_; rintro e w' ⟨rfl, rfl⟩)
  exact ⟨rfl, rfl, (KeepA.refl g w).alloc hlt _⟩

set_option maxHeartbeats 1000000 in
theorem lypop_any {w : World} {g : Nat} {iv : Value} {l : List Tok} {y : Ly} (h : LyAt w g iv l y) (h0 : 0 < y.regs.length) (hb : y.regs.length < 1000) :
    Calls Tryd.prog 84 #[.pointer (some ⟨g, 0, none⟩)] w fun e w' => e = .returned (.tuple #[]) ∧ LyAt w' g iv l { y with regs := y.regs.dropLast } ∧ KeepA g w w' := by
  obtain ⟨ov, rv, h⟩ := h
  obtain ⟨k, cap, cur, rfl, hh, hcap, _⟩ := own_cells h.reg h0
  obtain ⟨_, _, c2, _⟩ := h.cells
  have q2f := h.frozen 2
  have e1 : IntKind.i64.wrap ((y.regs.length : Int) - 1) = ((y.regs.length - 1 : Nat) : Int) := by rw [show ((y.regs.length : Int) - 1) = ((y.regs.length - 1 : Nat) : Int) by omega]; exact IntWalk.i64_in _ (by omega)
  have hcap1 : y.regs.length ≤ cap + 1 := by omega
  have e2 : (0 : Int) ≤ ((y.regs.length - 1 : Nat) : Int) := by omega
  have e4 : ((y.regs.length - 1 : Nat) : Int).toNat = y.regs.length - 1 := by omega
  have HH := Lib.hid (h.drew.popReg h0)
  clear h hh
  go_enter Tryd.func84, Tryd.ntmps84
  go_wp2_with fail
  go_region
  go_wp2_with fail
  go_end0
  exact ⟨rfl, ⟨_, _, HH.out.1⟩, ((KeepA.refl g w).drew).trans HH.out.2⟩
end Go.Proofs.YtcdidmohgcegmaaDoor
