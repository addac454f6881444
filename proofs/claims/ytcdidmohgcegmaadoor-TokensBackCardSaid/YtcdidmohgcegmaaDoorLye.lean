/- The contract of continuation. -/
import Derived.Test.YtcdidmohgcegmaaDoorLyd
namespace Go.Proofs.YtcdidmohgcegmaaDoor
open Go.RowKit
set_option maxRecDepth 100000

def botT : Tok := ⟨0, ⟨#[]⟩, 0, 0, 0⟩
def tk (l : List Tok) (i : Nat) : Tok := l.getD i botT
def contMarkM (s : ByteArray) : Bool :=
  s.toList == [41] || s.toList == [93] || s.toList == [125] || s.toList == [44] || s.toList == [46] || s.toList == [61] || s.toList == [61, 62] || s.toList == [60, 45] || s.toList == [58] || s.toList == [60, 58] || s.toList == [62, 58] || s.toList == [59]
def contKeyM (s : ByteArray) : Bool :=
  s.toList == [99, 97, 116, 99, 104] || s.toList == [100, 111] || s.toList == [101, 108, 115, 101] || s.toList == [101, 120, 116, 101, 110, 100, 115] || s.toList == [102, 105, 110, 97, 108, 108, 121] || s.toList == [109, 97, 116, 99, 104] ||
  s.toList == [116, 104, 101, 110] || s.toList == [119, 105, 116, 104] || s.toList == [121, 105, 101, 108, 100]
def contM (l : List Tok) (i : Nat) : Bool :=
  ((tk l i).kind == 3 && contMarkM (tk l i).text) || ((tk l i).kind == 1 && contKeyM (tk l i).text) ||
  ((tk l i).kind == 2 && (i + 1 == l.length || decide ((tk l i).text.size < (tk l (i + 1)).pos - (tk l i).pos)))

theorem tokCells_len (l : List Tok) : (l.flatMap Tok.cells).length = 5 * l.length := by
  induction l with
  | nil => rfl
  | cons a t ih => simp [List.flatMap_cons, Tok.cells, ih]; omega
theorem toks_getElem (l : List Tok) (k : Nat) (h : k < l.length) :
    (l.flatMap Tok.cells)[k * 5]? = some (I (tk l k).kind) ∧ (l.flatMap Tok.cells)[k * 5 + 1]? = some (.string (tk l k).text) ∧ (l.flatMap Tok.cells)[k * 5 + 2]? = some (I (tk l k).pos) ∧
    (l.flatMap Tok.cells)[k * 5 + 3]? = some (I (tk l k).line) ∧ (l.flatMap Tok.cells)[k * 5 + 4]? = some (I (tk l k).col) := by
  unfold tk
  induction l generalizing k with
  | nil => simp at h
  | cons a t ih =>
    cases k with
    | zero => simp [Tok.cells]
    | succ k =>
      have := ih k (by simpa using h)
      have e1 : (k + 1) * 5 = (k * 5) + 5 := by omega
      have e2 : (k * 5) + 5 + 1 = (k * 5 + 1) + 5 := by omega
      have e3 : (k * 5) + 5 + 2 = (k * 5 + 2) + 5 := by omega
      have e4 : (k * 5) + 5 + 3 = (k * 5 + 3) + 5 := by omega
      have e5 : (k * 5) + 5 + 4 = (k * 5 + 4) + 5 := by omega
      rw [e1, e2, e3, e4, e5]
      simpa [Tok.cells, List.flatMap_cons] using this
/-- The five cells of token i of block k. -/
def TokIn (w : World) (k i : Nat) (t : Tok) : Prop :=
  w.cell? ⟨k, i * 5, none⟩ = some (I t.kind) ∧ w.cell? ⟨k, i * 5 + 1, none⟩ = some (.string t.text) ∧ w.cell? ⟨k, i * 5 + 2, none⟩ = some (I t.pos) ∧ w.cell? ⟨k, i * 5 + 3, none⟩ = some (I t.line) ∧ w.cell? ⟨k, i * 5 + 4, none⟩ = some (I t.col)
theorem in_form {w : World} {iv : Value} {l : List Tok} (h : w.ownsRow 0 34 5 iv l.length (l.flatMap Tok.cells)) (h0 : 0 < l.length) :
    ∃ k cap, iv = .slice (some ⟨k, 0, none⟩) l.length cap ∧ k < w.heap.size ∧ ∀ i, i < l.length → TokIn w k i (tk l i) := by
  obtain ⟨k, cap, cur, hv, hh, hcap, hr⟩ := own_cells h h0
  refine ⟨k, cap, hv, heap_lt hh, fun i hi => ?_⟩
  obtain ⟨e1, e2, e3, e4, e5⟩ := toks_getElem l i hi
  refine ⟨?_, ?_, ?_, ?_, ?_⟩
  · rw [cell_of_row w k _ _ _ _ hh, ← e1]; exact hr _ (by omega)
  · rw [cell_of_row w k _ _ _ _ hh, ← e2]; exact hr _ (by omega)
  · rw [cell_of_row w k _ _ _ _ hh, ← e3]; exact hr _ (by omega)
  · rw [cell_of_row w k _ _ _ _ hh, ← e4]; exact hr _ (by omega)
  · rw [cell_of_row w k _ _ _ _ hh, ← e5]; exact hr _ (by omega)

set_option maxHeartbeats 1600000 in
theorem cont_any {w : World} {g : Nat} {iv : Value} {l : List Tok} {y : Ly} (i : Nat) (h : LyAt w g iv l y) (hi : i < l.length) (hn : l.length ≤ 1000000) (hp : (tk l (i + 1)).pos < 1000000) (hq : i + 1 < l.length → (tk l i).pos ≤ (tk l (i + 1)).pos) (hs : (tk l i).text.size < 1000000) :
    Calls Tryd.prog 78 #[.pointer (some ⟨g, 0, none⟩), I i] w fun e w' => e = .returned (.bool (contM l i)) ∧ ∃ n, w' = (w.alloc (tokO (tk l i))).drewN n := by
  obtain ⟨ov, rv, h⟩ := h
  obtain ⟨k, cap, rfl, hk, hin⟩ := in_form h.inn (by omega)
  obtain ⟨c0, _⟩ := h.cells
  have hlt := h.lt
  obtain ⟨t0, t1, t2, t3, t4⟩ := hin i hi
  have b0 : ((i : Int) < (l.length : Int)) := by omega
  have hN : i + 1 < l.length → TokIn w k (i + 1) (tk l (i + 1)) := hin (i + 1)
  clear hin h
  by_cases h3 : (tk l i).kind = 3
  · have hcm : contM l i = contMarkM (tk l i).text := by unfold contM; rw [h3]; simp
    rw [hcm]
    clear hcm hN hq hp
    generalize tk l i = t at *
    obtain ⟨kind, text, pos, line, col⟩ := t
    unfold tokO
    dsimp only at *
    subst h3
    go_enter Tryd.func78, Tryd.ntmps78
    go_wp2_with fail
    all_goals go_ret
    all_goals exact ⟨ret_bool (by simp_all [contMarkM]), 0, rfl⟩
  · have h3' : (((tk l i).kind : Int) == 3) = false := by simp; omega
    have e3 : ((tk l i).kind == 3) = false := by simpa using h3
    by_cases h1 : (tk l i).kind = 1
    · have hcm : contM l i = contKeyM (tk l i).text := by unfold contM; rw [h1]; simp
      rw [hcm]
      clear hcm hN hq hp h3 h3' e3
      generalize tk l i = t at *
      obtain ⟨kind, text, pos, line, col⟩ := t
      unfold tokO
      dsimp only at *
      subst h1
      go_enter Tryd.func78, Tryd.ntmps78
      go_wp2_with fail
      all_goals go_ret
      all_goals exact ⟨ret_bool (by simp_all [contKeyM]), 0, rfl⟩
    · have h1' : (((tk l i).kind : Int) == 1) = false := by simp; omega
      have e1 : ((tk l i).kind == 1) = false := by simpa using h1
      by_cases h2 : (tk l i).kind = 2
      · have hcm : contM l i = (i + 1 == l.length || decide ((tk l i).text.size < (tk l (i + 1)).pos - (tk l i).pos)) := by unfold contM; rw [h2]; simp
        rw [hcm]
        clear hcm h3 h3' e3 h1 h1' e1
        by_cases hl : i + 1 = l.length
        · have b1 : (((i : Int) + 1) == (l.length : Int)) = true := by simp; omega
          have b2 : (i + 1 == l.length) = true := by simpa using hl
          rw [b2, Bool.true_or]
          clear hN hq hp hl b2
          generalize tk l i = t at *
          obtain ⟨kind, text, pos, line, col⟩ := t
          unfold tokO
          dsimp only at *
          subst h2
          go_enter Tryd.func78, Tryd.ntmps78
          go_wp2_with fail
          go_quiet (fail)
          go_wp2_with fail
          go_ret
          exact ⟨rfl, _, rfl⟩
        · have b1 : (((i : Int) + 1) == (l.length : Int)) = false := by simp; omega
          have b2 : (i + 1 == l.length) = false := by simpa using hl
          obtain ⟨_, _, n2, _⟩ := hN (by omega)
          have hle := hq (by omega)
          have b3 : ((i : Int) + 1 < (l.length : Int)) := by omega
          rw [b2, Bool.false_or]
          clear hN hq hl b2
          generalize tk l (i + 1) = t' at *
          generalize tk l i = t at *
          obtain ⟨kind, text, pos, line, col⟩ := t
          obtain ⟨_, _, pos', _, _⟩ := t'
          unfold tokO
          dsimp only at *
          subst h2
          go_enter Tryd.func78, Tryd.ntmps78
          go_wp2_with fail
          go_quiet (fail)
          go_wp2_with fail
          go_ret
          refine ⟨ret_bool ?_, _, rfl⟩
          rw [Bool.eq_iff_iff]
          simp only [decide_eq_true_eq]
          omega
      · have h2' : (((tk l i).kind : Int) == 2) = false := by simp; omega
        have hcm : contM l i = false := by unfold contM; simp [h1, h2, h3]
        rw [hcm]
        clear hcm hN hq hp h3 e3 h1 e1 h2
        generalize tk l i = t at *
        obtain ⟨kind, text, pos, line, col⟩ := t
        unfold tokO
        dsimp only at *
        go_enter Tryd.func78, Tryd.ntmps78
        go_wp2_with fail
        go_ret
        exact ⟨rfl, 0, rfl⟩
end Go.Proofs.YtcdidmohgcegmaaDoor
