/- What run needs: what checkList has checked, the first region laid. -/
import Derived.Test.YtcdidmohgcegmaaDoorLyk
import Derived.Test.YtcdidmohgcegmaaDoorLyj
namespace Go.Proofs.YtcdidmohgcegmaaDoor
open Go.RowKit
set_option maxRecDepth 100000

theorem chkK_none : ∀ (f : Nat) (l : List Tok) (i : Nat), chkK f l i = none → i ≤ l.length → l.length < f + i → l.length ≤ 20000 ∧ ∀ j, i ≤ j → j < l.length → (tk l j).kind ≤ 10 ∧ (0 < j → disM (tk l (j - 1)) (tk l j) = false) := by
  intro f
  induction f with
  | zero =>
    intro l i h hi hf
    omega
  | succ f ih =>
    intro l i h hi hf
    rw [chkK] at h
    split at h
    · split at h
      · cases h
      · rename_i hk
        split at h
        · cases h
        · rename_i hd
          obtain ⟨a, b⟩ := ih l (i + 1) h (by omega) (by omega)
          refine ⟨a, fun j hj hl => ?_⟩
          rcases Nat.eq_or_lt_of_le hj with e | hlt
          · subst e
            exact ⟨by omega, fun h0 => by simpa using fun h1 => hd ⟨h0, h1⟩⟩
          · exact b j hlt hl
    · split at h
      · cases h
      · exact ⟨by omega, fun j hj hl => by omega⟩

theorem KeepA.of_below {w w' : World} {g : Nat} (hg : g < w.heap.size) (hb : Below w.heap.size w w') : KeepA g w w' :=
  ⟨hb.os, hb.tape, hb.output, hb.size, fun p hp => ⟨⟨Nat.lt_of_lt_of_le hp.1 hb.size, hp.2.1, by rw [World.cell?_of_block (hb.block g hg)]; exact hp.2.2.1, by rw [World.cell?_of_block (hb.block g hg)]; exact hp.2.2.2⟩, hb.block p hp.1⟩⟩
theorem LyAt.of_below {w w' : World} {g : Nat} {iv : Value} {l : List Tok} {y : Ly} (h : LyAt w g iv l y) (hb : Below w.heap.size w w') : LyAt w' g iv l y := by
  obtain ⟨ov, rv, h⟩ := h
  exact ⟨ov, rv, h.same fun k hk => hb.block k hk⟩
/-- The first region is laid. -/
theorem LyX.first {w : World} {g : Nat} {iv ov rv : Value} {l : List Tok} {y : Ly} (h : LyX w g iv l y ov rv) (r : Rg) :
    LyX ((w.alloc (.cells #[.string r.mark, I r.width, I r.index] 85)).setCell ⟨g, 2, none⟩ (.slice (some ⟨w.heap.size, 0, none⟩) 1 1)) g iv l { y with regs := [r] } ov (.slice (some ⟨w.heap.size, 0, none⟩) 1 1) ∧
    KeepA g w ((w.alloc (.cells #[.string r.mark, I r.width, I r.index] 85)).setCell ⟨g, 2, none⟩ (.slice (some ⟨w.heap.size, 0, none⟩) 1 1)) := by
  have ha := h.alloc (.cells #[.string r.mark, I r.width, I r.index] 85)
  have hlt := h.lt
  obtain ⟨_, _, c2, _⟩ := ha.cells
  refine ⟨⟨by simp [World.setCell, Array.getElem?_modify, ha.blk], own_same ha.out fun k hk _ => set_far _ _ _ _ _ (fun e => ha.og (by rw [hk, e])), ⟨rfl, .inr ⟨w.heap.size, 1, #[.string r.mark, I r.width, I r.index], rfl, Nat.zero_le _, ?_, Nat.le_refl _, by unfold maxLen; omega, rfl, rfl⟩⟩, own_same ha.inn fun k hk _ => set_far _ _ _ _ _ (fun e => ha.ig (by rw [hk, e])), h.ne⟩, ?_⟩
  · rw [set_far _ _ _ _ _ (by omega)]
    exact heap_alloc_new w _
  · refine ⟨rfl, rfl, rfl, by simp [World.setCell], fun p hp => ?_⟩
    have hp1 := hp.1
    refine ⟨⟨by simp [World.setCell]; omega, hp.2.1, fun v hv => ?_, fun v hv e => ?_⟩, (set_far _ _ _ _ _ hp.2.1).trans (Below.heap_alloc w _ p hp.1)⟩
    · rw [set_cell_other _ _ _ _ _ (by decide), World.cell?_of_block (Below.heap_alloc w _ g hlt)] at hv
      exact hp.2.2.1 v hv
    · rw [set_cell_same c2] at hv
      cases hv
      have e2 : w.heap.size = p := by simpa [Value.ownBlock] using e
      omega
end Go.Proofs.YtcdidmohgcegmaaDoor
