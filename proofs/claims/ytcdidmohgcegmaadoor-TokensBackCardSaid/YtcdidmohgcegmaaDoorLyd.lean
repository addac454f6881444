/- Contracts of disordered, outdent, unfinished. -/
import Derived.Test.YtcdidmohgcegmaaDoorLyc
namespace Go.Proofs.YtcdidmohgcegmaaDoor
open Go.RowKit
set_option maxRecDepth 100000

set_option maxHeartbeats 1600000 in
theorem unf_any (t : Tok) (w : World) (hg : Gl w) :
    Calls Tryd.prog 79 #[tokV t] w fun e w' => e = .returned (.bool (unfM t)) ∧ w' = w.alloc (tokO t) := by
  have hg2 := hg.alloc (tokO t)
  clear hg
  obtain ⟨kind, text, pos, line, col⟩ := t
  unfold tokV tokO unfM at *
  dsimp only at hg2 ⊢
  have HG := Lib.hid hg2
  clear hg2
  by_cases h2 : kind = 2
  · subst h2
    go_enter Tryd.func79, Tryd.ntmps79
    go_wp2_with fail
    go_ret
    exact ⟨ret_bool rfl, rfl⟩
  · have h2' : ((kind : Int) == 2) = false := by simp; omega
    have e2 : (kind == 2) = false := by simpa using h2
    rw [e2, Bool.false_or]
    by_cases h3 : kind = 3
    · subst h3
      clear h2 e2
      rw [show (((3 : Nat) == 3) && unfMarkM text || ((3 : Nat) == 1) && !finKeyM text && keywordM text) = unfMarkM text from by simp]
      go_enter Tryd.func79, Tryd.ntmps79
      go_wp2_with fail
      all_goals go_ret
      all_goals exact ⟨ret_bool (by simp_all [unfMarkM]), rfl⟩
    · have h3' : ((kind : Int) == 3) = false := by simp; omega
      have e3 : (kind == 3) = false := by simpa using h3
      rw [e3, Bool.false_and, Bool.false_or]
      by_cases h1 : kind = 1
      · subst h1
        clear h2 e2 h3 e3
        rw [show (((1 : Nat) == 1) && !finKeyM text && keywordM text) = (!finKeyM text && keywordM text) from by simp]
        go_enter Tryd.func79, Tryd.ntmps79
        go_wp2_with (go_at_call 8; refine (keyword_any _ _ HG.out).mono ?_; rintro e w' ⟨rfl, rfl⟩)
        all_goals go_ret
        all_goals exact ⟨ret_bool (by simp_all [finKeyM]), rfl⟩
      · have h1' : ((kind : Int) == 1) = false := by simp; omega
        have e1 : (kind == 1) = false := by simpa using h1
        rw [e1, Bool.false_and, Bool.false_and]
        clear h1 h2 h3 e1 e2 e3
        go_enter Tryd.func79, Tryd.ntmps79
        go_wp2_with fail
        go_ret
        exact ⟨rfl, rfl⟩

theorem outM_alloc {w : World} (t : Tok) : (w.alloc (tokO t)).heap[w.heap.size]? = some (.cells #[I t.kind, .string t.text, I t.pos, I t.line, I t.col] 34 (0, 0)) := heap_alloc_new w (tokO t)
set_option maxHeartbeats 1000000 in
theorem outdent_any {w : World} {g : Nat} {iv : Value} {l : List Tok} {y : Ly} (t : Tok) (h : LyAt w g iv l y) (h0 : 0 < y.regs.length) (hb : y.regs.length < 1000) (hn : y.out.length ≤ 1000000) :
    Calls Tryd.prog 83 #[.pointer (some ⟨g, 0, none⟩), tokV t] w fun e w' => e = .returned (.tuple #[]) ∧ LyAt w' g iv l { y with out := y.out ++ [layM 13 t], regs := y.regs.dropLast } ∧ KeepA g w w' := by
  have HH := Lib.hid (h.alloc (tokO t))
  have hlt := h.lt
  clear h
  unfold tokV at *
  unfold tokO at *
  go_enter Tryd.func83, Tryd.ntmps83
  go_wp2_with fail
  refine (lyput_any 13 t HH.out hn).mono ?_
  rintro e w1 ⟨rfl, h1, k1⟩
  have H1 := Lib.hid h1
  have K1 := Lib.hid k1
  clear h1 k1
  go_wp2_with fail
  refine (lypop_any H1.out h0 hb).mono ?_
  rintro e w2 ⟨rfl, h2, k2⟩
  go_wp2_with fail
  go_end0
  exact ⟨rfl, h2, (((KeepA.refl g w).alloc hlt _).trans K1.out).trans k2⟩

set_option maxHeartbeats 1600000 in
theorem dis_any (u t : Tok) (w : World) :
    Calls Tryd.prog 73 #[tokV u, tokV t] w fun e w' => e = .returned (.bool (disM u t)) ∧ w' = (w.alloc (tokO u)).alloc (tokO t) := by
  obtain ⟨uk, ut, up, ul, uc⟩ := u
  obtain ⟨tk, tt, tp, tl, tc⟩ := t
  unfold tokV tokO disM
  dsimp only
  by_cases h1 : tl < ul
  · have h1' : ((tl : Int) < (ul : Int)) := by omega
    go_enter Tryd.func73, Tryd.ntmps73
    go_wp2_with fail
    go_ret
    exact ⟨ret_bool (by simp [h1]), rfl⟩
  · have h1' : ¬((tl : Int) < (ul : Int)) := by omega
    by_cases h2 : tp < up
    · have h2' : ((tp : Int) < (up : Int)) := by omega
      go_enter Tryd.func73, Tryd.ntmps73
      go_wp2_with fail
      go_ret
      exact ⟨ret_bool (by simp), rfl⟩
    · have h2' : ¬((tp : Int) < (up : Int)) := by omega
      by_cases h3 : tl = ul
      · subst h3
        by_cases h4 : tc < uc
        · have h4' : ((tc : Int) < (uc : Int)) := by omega
          go_enter Tryd.func73, Tryd.ntmps73
          go_wp2_with fail
          go_ret
          exact ⟨ret_bool (by simp), rfl⟩
        · have h4' : ¬((tc : Int) < (uc : Int)) := by omega
          by_cases h5 : uk = 9
          · subst h5
            go_enter Tryd.func73, Tryd.ntmps73
            go_wp2_with fail
            go_ret
            exact ⟨ret_bool (by simp), rfl⟩
          · have h5' : ((uk : Int) == 9) = false := by simp; omega
            by_cases h6 : tp = up
            · subst h6
              go_enter Tryd.func73, Tryd.ntmps73
              go_wp2_with fail
              go_ret
              exact ⟨ret_bool (by simp [h5]), rfl⟩
            · have h6' : ((tp : Int) == (up : Int)) = false := by simp; omega
              go_enter Tryd.func73, Tryd.ntmps73
              go_wp2_with fail
              go_ret
              refine ⟨ret_bool ?_, rfl⟩
              have e9 : (uk != 9) = true := bne_iff_ne.2 h5
              have e6 : (tp == up) = false := beq_eq_false_iff_ne.2 h6
              rw [e9, e6, Bool.eq_iff_iff]
              simp only [Bool.true_and, Bool.false_or, beq_iff_eq]
              omega
      · have h3' : ((tl : Int) == (ul : Int)) = false := by simp; omega
        by_cases h5 : uk = 9
        · subst h5
          go_enter Tryd.func73, Tryd.ntmps73
          go_wp2_with fail
          go_ret
          exact ⟨ret_bool (by simp [h3]), rfl⟩
        · have h5' : ((uk : Int) == 9) = false := by simp; omega
          by_cases h6 : tp = up
          · subst h6
            go_enter Tryd.func73, Tryd.ntmps73
            go_wp2_with fail
            go_ret
            exact ⟨ret_bool (by simp [h5]), rfl⟩
          · have h6' : ((tp : Int) == (up : Int)) = false := by simp; omega
            go_enter Tryd.func73, Tryd.ntmps73
            go_wp2_with fail
            go_ret
            exact ⟨ret_bool (by simp [h3, h5, h6]), rfl⟩
end Go.Proofs.YtcdidmohgcegmaaDoor
