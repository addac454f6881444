/- The words in which the contracts of the layouter speak of memory, and lemmas on them. No condition. -/
import Derived.Test.YtcdidmohgcegmaaDoorCau
namespace Go.Proofs.YtcdidmohgcegmaaDoor
open Go.RowKit
set_option maxRecDepth 100000

structure Rg where
  mark : ByteArray
  width : Nat
  index : Nat
structure Ly where
  out : List Tok
  regs : List Rg
  margin : Nat
def Rg.cells (r : Rg) : List Value := [.string r.mark, I r.width, I r.index]

/-- Block p is neither the layouter's nor one of its two rows. -/
def Apart (w : World) (g p : Nat) : Prop := p < w.heap.size ∧ p ≠ g ∧ (∀ v, w.cell? ⟨g, 1, none⟩ = some v → v.ownBlock ≠ some p) ∧ ∀ v, w.cell? ⟨g, 2, none⟩ = some v → v.ownBlock ≠ some p
/-- Nothing has turned but the layouter and its rows. -/
structure KeepA (g : Nat) (w w' : World) : Prop where
  os : w'.os = w.os
  tape : w'.tape = w.tape
  output : w'.output = w.output
  size : w.heap.size ≤ w'.heap.size
  block : ∀ p, Apart w g p → Apart w' g p ∧ w'.heap[p]? = w.heap[p]?
theorem KeepA.refl (g : Nat) (w : World) : KeepA g w w := ⟨rfl, rfl, rfl, Nat.le_refl _, fun _ h => ⟨h, rfl⟩⟩
theorem KeepA.trans {g : Nat} {a b c : World} (h : KeepA g a b) (k : KeepA g b c) : KeepA g a c :=
  ⟨k.os.trans h.os, k.tape.trans h.tape, k.output.trans h.output, Nat.le_trans h.size k.size, fun p hp => ⟨(k.block p (h.block p hp).1).1, (k.block p (h.block p hp).1).2.trans (h.block p hp).2⟩⟩
theorem KeepA.drew {g : Nat} {a w : World} (h : KeepA g a w) : KeepA g a w.drew := ⟨h.os, h.tape, h.output, h.size, h.block⟩
theorem KeepA.drewN {g : Nat} {a w : World} (h : KeepA g a w) (n : Nat) : KeepA g a (w.drewN n) := ⟨h.os, h.tape, h.output, h.size, h.block⟩

/-- The layouter at block g, its rows named. -/
structure LyX (w : World) (g : Nat) (iv : Value) (l : List Tok) (y : Ly) (ov rv : Value) : Prop where
  blk : w.heap[g]? = some (.cells #[iv, ov, rv, I y.margin] 74 (0, 0))
  out : w.ownsRow 0 34 5 ov y.out.length (y.out.flatMap Tok.cells)
  reg : w.ownsRow 0 85 3 rv y.regs.length (y.regs.flatMap Rg.cells)
  inn : w.ownsRow 0 34 5 iv l.length (l.flatMap Tok.cells)
  ne : ∀ k, iv.ownBlock = some k → ov.ownBlock ≠ some k
def LyAt (w : World) (g : Nat) (iv : Value) (l : List Tok) (y : Ly) : Prop := ∃ ov rv, LyX w g iv l y ov rv

section
variable {w w' : World} {g : Nat} {iv ov rv : Value} {l : List Tok} {y : Ly}
theorem own_block {w : World} {B e sz n : Nat} {v : Value} {xs : List Value} {k : Nat} (h : w.ownsRow B e sz v n xs) (hk : v.ownBlock = some k) : ∃ cur, w.heap[k]? = some (.cells cur e (0, 0)) := by
  rcases h.2 with ⟨rfl, _⟩ | ⟨k', cap, cur, rfl, _, hh, _⟩
  · cases hk
  · have : k' = k := by simpa [Value.ownBlock] using hk
    subst this
    exact ⟨cur, hh⟩
theorem heap_lt {w : World} {k : Nat} {o : Obj} (h : w.heap[k]? = some o) : k < w.heap.size := by
  rcases Nat.lt_or_ge k w.heap.size with hlt | hge
  · exact hlt
  · rw [Array.getElem?_eq_none hge] at h; cases h
theorem heap_ty {w : World} {k : Nat} {c c' : Array Value} {t t' : TypeId} (h : w.heap[k]? = some (.cells c t (0, 0))) (h' : w.heap[k]? = some (.cells c' t' (0, 0))) : t = t' := by
  rw [h] at h'; injection h' with h'; injection h' with _ ht
theorem LyX.lt (h : LyX w g iv l y ov rv) : g < w.heap.size := heap_lt h.blk
theorem LyX.cells (h : LyX w g iv l y ov rv) : w.cell? ⟨g, 0, none⟩ = some iv ∧ w.cell? ⟨g, 1, none⟩ = some ov ∧ w.cell? ⟨g, 2, none⟩ = some rv ∧ w.cell? ⟨g, 3, none⟩ = some (I y.margin) := by
  simp [cell_of_row w g _ _ _ _ h.blk]
theorem LyX.frozen (h : LyX w g iv l y ov rv) (i : Nat) : w.frozen? ⟨g, i, none⟩ = false := by simp [World.frozen?, h.blk]
theorem LyX.og (h : LyX w g iv l y ov rv) : ov.ownBlock ≠ some g := fun e => by obtain ⟨c, hc⟩ := own_block h.out e; exact absurd (heap_ty hc h.blk) (by decide)
theorem LyX.rg (h : LyX w g iv l y ov rv) : rv.ownBlock ≠ some g := fun e => by obtain ⟨c, hc⟩ := own_block h.reg e; exact absurd (heap_ty hc h.blk) (by decide)
theorem LyX.ig (h : LyX w g iv l y ov rv) : iv.ownBlock ≠ some g := fun e => by obtain ⟨c, hc⟩ := own_block h.inn e; exact absurd (heap_ty hc h.blk) (by decide)
/-- Blocks that hold what they held. -/
theorem own_same {w w' : World} {B e sz n : Nat} {v : Value} {xs : List Value} (h : w.ownsRow B e sz v n xs) (hk : ∀ k, v.ownBlock = some k → k < w.heap.size → w'.heap[k]? = w.heap[k]?) : w'.ownsRow B e sz v n xs := by
  refine ⟨h.1, ?_⟩
  rcases h.2 with h2 | ⟨k, cap, cur, rfl, hb, hh, hr⟩
  · exact .inl h2
  · exact .inr ⟨k, cap, cur, rfl, hb, (hk k rfl (heap_lt hh)).trans hh, hr⟩
theorem LyX.same (h : LyX w g iv l y ov rv) (hk : ∀ k, k < w.heap.size → w'.heap[k]? = w.heap[k]?) : LyX w' g iv l y ov rv :=
  ⟨(hk g h.lt).trans h.blk, own_same h.out fun k _ => hk k, own_same h.reg fun k _ => hk k, own_same h.inn fun k _ => hk k, h.ne⟩
theorem LyX.alloc (h : LyX w g iv l y ov rv) (o : Obj) : LyX (w.alloc o) g iv l y ov rv := h.same fun k hk => Below.heap_alloc w o k hk
theorem LyX.drew (h : LyX w g iv l y ov rv) : LyX w.drew g iv l y ov rv := ⟨h.blk, h.out, h.reg, h.inn, h.ne⟩
theorem LyX.drewN (h : LyX w g iv l y ov rv) (n : Nat) : LyX (w.drewN n) g iv l y ov rv := ⟨h.blk, h.out, h.reg, h.inn, h.ne⟩
theorem LyAt.alloc (h : LyAt w g iv l y) (o : Obj) : LyAt (w.alloc o) g iv l y := by obtain ⟨ov, rv, h⟩ := h; exact ⟨ov, rv, h.alloc o⟩
theorem LyAt.drewN (h : LyAt w g iv l y) (n : Nat) : LyAt (w.drewN n) g iv l y := by obtain ⟨ov, rv, h⟩ := h; exact ⟨ov, rv, h.drewN n⟩
theorem LyAt.drew (h : LyAt w g iv l y) : LyAt w.drew g iv l y := by obtain ⟨ov, rv, h⟩ := h; exact ⟨ov, rv, h.drew⟩
theorem LyAt.lt (h : LyAt w g iv l y) : g < w.heap.size := by obtain ⟨ov, rv, h⟩ := h; exact h.lt
theorem Apart.alloc {p : Nat} (h : Apart w g p) (hg : g < w.heap.size) (o : Obj) : Apart (w.alloc o) g p := by
  have h1 : (w.alloc o).cell? ⟨g, 1, none⟩ = w.cell? ⟨g, 1, none⟩ := World.cell?_of_block (Below.heap_alloc w o g hg)
  have h2 : (w.alloc o).cell? ⟨g, 2, none⟩ = w.cell? ⟨g, 2, none⟩ := World.cell?_of_block (Below.heap_alloc w o g hg)
  exact ⟨by have := h.1; simp; omega, h.2.1, by rw [h1]; exact h.2.2.1, by rw [h2]; exact h.2.2.2⟩
theorem KeepA.alloc {a : World} (h : KeepA g a w) (hg : g < w.heap.size) (o : Obj) : KeepA g a (w.alloc o) :=
  h.trans ⟨rfl, rfl, rfl, by simp, fun p hp => ⟨hp.alloc hg o, Below.heap_alloc w o p hp.1⟩⟩
/-- A new block is apart. -/
theorem LyX.apart_new (h : LyX w g iv l y ov rv) (o : Obj) : Apart (w.alloc o) g w.heap.size := by
  obtain ⟨_, c1, c2, _⟩ := (h.alloc o).cells
  refine ⟨by simp, by have := h.lt; omega, fun v hv e => ?_, fun v hv e => ?_⟩
  · rw [c1] at hv; cases hv
    obtain ⟨c, hc⟩ := own_block h.out e
    exact absurd (heap_lt hc) (by omega)
  · rw [c2] at hv; cases hv
    obtain ⟨c, hc⟩ := own_block h.reg e
    exact absurd (heap_lt hc) (by omega)
theorem LyX.apart_in (h : LyX w g iv l y ov rv) {k : Nat} (hk : iv.ownBlock = some k) : Apart w g k := by
  obtain ⟨_, c1, c2, _⟩ := h.cells
  obtain ⟨c, hc⟩ := own_block h.inn hk
  refine ⟨heap_lt hc, fun e => h.ig (by rw [hk, e]), fun v hv e => ?_, fun v hv e => ?_⟩
  · rw [c1] at hv; cases hv; exact h.ne k hk e
  · rw [c2] at hv; cases hv
    obtain ⟨c', hc'⟩ := own_block h.reg e
    exact absurd (heap_ty hc hc') (by decide)
theorem set_far (w : World) (g i : Nat) (u : Value) (k : Nat) (h : k ≠ g) : (w.setCell ⟨g, i, none⟩ u).heap[k]? = w.heap[k]? := Below.heap_setCell w ⟨g, i, none⟩ u k h
theorem set_cell_other (w : World) (g i j : Nat) (u : Value) (h : i ≠ j) : (w.setCell ⟨g, i, none⟩ u).cell? ⟨g, j, none⟩ = w.cell? ⟨g, j, none⟩ :=
  World.cell?_setCell_other w ⟨g, i, none⟩ ⟨g, j, none⟩ u (fun e => h (by cases e; rfl))
theorem set_cell_same {w : World} {g i : Nat} {x u : Value} (h : w.cell? ⟨g, i, none⟩ = some x) : (w.setCell ⟨g, i, none⟩ u).cell? ⟨g, i, none⟩ = some u := by go_simp
/-- The margin is set. -/
theorem LyX.margin (h : LyX w g iv l y ov rv) (n : Nat) : LyX (w.setCell ⟨g, 3, none⟩ (I n)) g iv l { y with margin := n } ov rv := by
  refine ⟨by simp [World.setCell, Array.getElem?_modify, h.blk], own_same h.out fun k hk _ => set_far _ _ _ _ _ ?_, own_same h.reg fun k hk _ => set_far _ _ _ _ _ ?_, own_same h.inn fun k hk _ => set_far _ _ _ _ _ ?_, h.ne⟩
  · rintro rfl; exact h.og hk
  · rintro rfl; exact h.rg hk
  · rintro rfl; exact h.ig hk
theorem LyAt.margin (h : LyAt w g iv l y) (n : Nat) : LyAt (w.setCell ⟨g, 3, none⟩ (I n)) g iv l { y with margin := n } := by obtain ⟨ov, rv, h⟩ := h; exact ⟨ov, rv, h.margin n⟩
theorem KeepA.margin {a : World} (h : KeepA g a w) (u : Value) : KeepA g a (w.setCell ⟨g, 3, none⟩ u) :=
  h.trans ⟨rfl, rfl, rfl, by simp [World.setCell], fun p hp => ⟨⟨by simpa [World.setCell] using hp.1, hp.2.1, by rw [set_cell_other _ _ _ _ _ (by decide)]; exact hp.2.2.1, by rw [set_cell_other _ _ _ _ _ (by decide)]; exact hp.2.2.2⟩, set_far _ _ _ _ _ hp.2.1⟩⟩

/-- A token has been appended to the output. -/
theorem LyX.pushOut {t : Tok} {gg cap : Nat} (h : LyX w g iv l y ov rv) (hgrow : w.grownBy w' ov.ownBlock) (hown : w'.ownsRow 0 34 5 (.slice (some ⟨gg, 0, none⟩) (y.out.length + 1) cap) (y.out.length + 1) (y.out.flatMap Tok.cells ++ t.cells))
    (hat : ov.ownBlock = some gg ∨ gg = w.heap.size) :
    LyX (w'.setCell ⟨g, 1, none⟩ (.slice (some ⟨gg, 0, none⟩) (y.out.length + 1) cap)) g iv l { y with out := y.out ++ [t] } (.slice (some ⟨gg, 0, none⟩) (y.out.length + 1) cap) rv ∧
    KeepA g w (w'.setCell ⟨g, 1, none⟩ (.slice (some ⟨gg, 0, none⟩) (y.out.length + 1) cap)) := by
  have hgg : gg ≠ g := by
    rcases hat with e | e
    · rintro rfl; exact h.og e
    · have := h.lt; omega
  have hblk : w'.heap[g]? = some (.cells #[iv, ov, rv, I y.margin] 74 (0, 0)) := (hgrow.block g h.lt (Ne.symm h.og)).trans h.blk
  have hrne : ∀ k, rv.ownBlock = some k → ov.ownBlock ≠ some k := fun k hk e => by
    obtain ⟨c, hc⟩ := own_block h.reg hk
    obtain ⟨c', hc'⟩ := own_block h.out e
    exact absurd (heap_ty hc hc') (by decide)
  refine ⟨⟨by simp [World.setCell, Array.getElem?_modify, hblk], ?_, ?_, ?_, ?_⟩, ?_⟩
  · have := own_same (w' := w'.setCell ⟨g, 1, none⟩ (.slice (some ⟨gg, 0, none⟩) (y.out.length + 1) cap)) hown fun k hk _ => set_far _ _ _ _ _ (by
      have : gg = k := by simpa [Value.ownBlock] using hk
      omega)
    simpa using this
  · exact own_same h.reg fun k hk hlt => (set_far _ _ _ _ _ (fun e => h.rg (by rw [hk, e]))).trans (hgrow.block k hlt (fun e => hrne k hk e.symm))
  · exact own_same h.inn fun k hk hlt => (set_far _ _ _ _ _ (fun e => h.ig (by rw [hk, e]))).trans (hgrow.block k hlt (fun e => h.ne k hk e.symm))
  · intro k hk e
    have e2 : gg = k := by simpa [Value.ownBlock] using e
    rcases hat with e3 | e3
    · exact h.ne k hk (by rw [e3, e2])
    · obtain ⟨c, hc⟩ := own_block h.inn hk
      have := heap_lt hc
      omega
  · refine ⟨hgrow.os, hgrow.tape, hgrow.output, by simpa [World.setCell] using hgrow.size, fun p hp => ?_⟩
    obtain ⟨_, c1, c2, _⟩ := h.cells
    have hpo : ov.ownBlock ≠ some p := hp.2.2.1 _ c1
    refine ⟨⟨Nat.lt_of_lt_of_le hp.1 (by simpa [World.setCell] using hgrow.size), hp.2.1, fun v hv e => ?_, fun v hv => ?_⟩, (set_far _ _ _ _ _ hp.2.1).trans (hgrow.block p hp.1 (Ne.symm hpo))⟩
    · have : (w'.setCell ⟨g, 1, none⟩ (.slice (some ⟨gg, 0, none⟩) (y.out.length + 1) cap)).cell? ⟨g, 1, none⟩ = some (.slice (some ⟨gg, 0, none⟩) (y.out.length + 1) cap) := set_cell_same (x := ov) (by simp [cell_of_row w' g _ _ _ _ hblk])
      rw [this] at hv; cases hv
      have e2 : gg = p := by simpa [Value.ownBlock] using e
      rcases hat with e3 | e3
      · exact hpo (by rw [e3, e2])
      · have := hp.1; omega
    · rw [set_cell_other _ _ _ _ _ (by decide), World.cell?_of_block (hgrow.block g h.lt (Ne.symm h.og))] at hv
      exact hp.2.2.2 v hv
/-- A region has been opened. -/
theorem LyX.pushReg {t : Rg} {gg cap : Nat} (h : LyX w g iv l y ov rv) (hgrow : w.grownBy w' rv.ownBlock) (hown : w'.ownsRow 0 85 3 (.slice (some ⟨gg, 0, none⟩) (y.regs.length + 1) cap) (y.regs.length + 1) (y.regs.flatMap Rg.cells ++ t.cells))
    (hat : rv.ownBlock = some gg ∨ gg = w.heap.size) :
    LyX (w'.setCell ⟨g, 2, none⟩ (.slice (some ⟨gg, 0, none⟩) (y.regs.length + 1) cap)) g iv l { y with regs := y.regs ++ [t] } ov (.slice (some ⟨gg, 0, none⟩) (y.regs.length + 1) cap) ∧
    KeepA g w (w'.setCell ⟨g, 2, none⟩ (.slice (some ⟨gg, 0, none⟩) (y.regs.length + 1) cap)) := by
  have hgg : gg ≠ g := by
    rcases hat with e | e
    · rintro rfl; exact h.rg e
    · have := h.lt; omega
  have hblk : w'.heap[g]? = some (.cells #[iv, ov, rv, I y.margin] 74 (0, 0)) := (hgrow.block g h.lt (Ne.symm h.rg)).trans h.blk
  have hty : ∀ {v n xs}, w.ownsRow 0 34 5 v n xs → ∀ k, v.ownBlock = some k → rv.ownBlock ≠ some k := fun ho k hk e => by
    obtain ⟨c, hc⟩ := own_block ho hk
    obtain ⟨c', hc'⟩ := own_block h.reg e
    exact absurd (heap_ty hc hc') (by decide)
  refine ⟨⟨by simp [World.setCell, Array.getElem?_modify, hblk], ?_, ?_, ?_, h.ne⟩, ?_⟩
  · exact own_same h.out fun k hk hlt => (set_far _ _ _ _ _ (fun e => h.og (by rw [hk, e]))).trans (hgrow.block k hlt (fun e => hty h.out k hk e.symm))
  · have := own_same (w' := w'.setCell ⟨g, 2, none⟩ (.slice (some ⟨gg, 0, none⟩) (y.regs.length + 1) cap)) hown fun k hk _ => set_far _ _ _ _ _ (by
      have : gg = k := by simpa [Value.ownBlock] using hk
      omega)
    simpa using this
  · exact own_same h.inn fun k hk hlt => (set_far _ _ _ _ _ (fun e => h.ig (by rw [hk, e]))).trans (hgrow.block k hlt (fun e => hty h.inn k hk e.symm))
  · refine ⟨hgrow.os, hgrow.tape, hgrow.output, by simpa [World.setCell] using hgrow.size, fun p hp => ?_⟩
    obtain ⟨_, c1, c2, _⟩ := h.cells
    have hpo : rv.ownBlock ≠ some p := hp.2.2.2 _ c2
    refine ⟨⟨Nat.lt_of_lt_of_le hp.1 (by simpa [World.setCell] using hgrow.size), hp.2.1, fun v hv => ?_, fun v hv e => ?_⟩, (set_far _ _ _ _ _ hp.2.1).trans (hgrow.block p hp.1 (Ne.symm hpo))⟩
    · rw [set_cell_other _ _ _ _ _ (by decide), World.cell?_of_block (hgrow.block g h.lt (Ne.symm h.rg))] at hv
      exact hp.2.2.1 v hv
    · have : (w'.setCell ⟨g, 2, none⟩ (.slice (some ⟨gg, 0, none⟩) (y.regs.length + 1) cap)).cell? ⟨g, 2, none⟩ = some (.slice (some ⟨gg, 0, none⟩) (y.regs.length + 1) cap) := set_cell_same (x := rv) (by simp [cell_of_row w' g _ _ _ _ hblk])
      rw [this] at hv; cases hv
      have e2 : gg = p := by simpa [Value.ownBlock] using e
      rcases hat with e3 | e3
      · exact hpo (by rw [e3, e2])
      · have := hp.1; omega
theorem rgCells_len (l : List Rg) : (l.flatMap Rg.cells).length = 3 * l.length := by
  induction l with
  | nil => rfl
  | cons a t ih => simp [List.flatMap_cons, Rg.cells, ih]; omega
/-- The innermost region has been closed. -/
theorem LyX.popReg {k cap : Nat} (h : LyX w g iv l y ov (.slice (some ⟨k, 0, none⟩) y.regs.length cap)) (h0 : 0 < y.regs.length) :
    LyX (w.setCell ⟨g, 2, none⟩ (.slice (some ⟨k, 0, none⟩) (y.regs.length - 1) cap)) g iv l { y with regs := y.regs.dropLast } ov (.slice (some ⟨k, 0, none⟩) (y.regs.length - 1) cap) ∧
    KeepA g w (w.setCell ⟨g, 2, none⟩ (.slice (some ⟨k, 0, none⟩) (y.regs.length - 1) cap)) := by
  have hd : (y.regs.flatMap Rg.cells).take ((y.regs.length - 1) * 3) = y.regs.dropLast.flatMap Rg.cells := by
    rcases List.eq_nil_or_concat y.regs with e | ⟨d, a, e⟩
    · rw [e] at h0; simp at h0
    · rw [e]
      have := rgCells_len d
      have h2 : (d ++ [a]).length - 1 = d.length := by simp
      rw [List.concat_eq_append, h2, List.dropLast_concat, List.flatMap_append, List.take_append_of_le_length (by omega), List.take_of_length_le (by omega)]
  refine ⟨⟨by simp [World.setCell, Array.getElem?_modify, h.blk], own_same h.out fun k hk _ => set_far _ _ _ _ _ (fun e => h.og (by rw [hk, e])), ?_, own_same h.inn fun k hk _ => set_far _ _ _ _ _ (fun e => h.ig (by rw [hk, e])), h.ne⟩, ?_⟩
  · have h1 := own_take h.reg (m := y.regs.length - 1) (by omega)
    rw [hd] at h1
    have := own_same (w' := w.setCell ⟨g, 2, none⟩ (.slice (some ⟨k, 0, none⟩) (y.regs.length - 1) cap)) h1 fun k hk _ => set_far _ _ _ _ _ (fun e => h.rg (by rw [← e]; simpa [Value.ownBlock] using hk))
    simpa using this
  · refine ⟨rfl, rfl, rfl, by simp [World.setCell], fun p hp => ?_⟩
    obtain ⟨_, c1, c2, _⟩ := h.cells
    refine ⟨⟨by simpa [World.setCell] using hp.1, hp.2.1, fun v hv => ?_, fun v hv e => ?_⟩, set_far _ _ _ _ _ hp.2.1⟩
    · rw [set_cell_other _ _ _ _ _ (by decide)] at hv; exact hp.2.2.1 v hv
    · have : (w.setCell ⟨g, 2, none⟩ (.slice (some ⟨k, 0, none⟩) (y.regs.length - 1) cap)).cell? ⟨g, 2, none⟩ = some (.slice (some ⟨k, 0, none⟩) (y.regs.length - 1) cap) := set_cell_same c2
      rw [this] at hv; cases hv
      exact hp.2.2.2 _ c2 (by simpa [Value.ownBlock] using e)
end
end Go.Proofs.YtcdidmohgcegmaaDoor
