/- The layouter's model: what each step keeps. Pure lemmas. -/
import Derived.Test.YtcdidmohgcegmaaDoorLyi
namespace Go.Proofs.YtcdidmohgcegmaaDoor
open Go.RowKit

/-- The first region is an indentation; there are at most 64; the numbers are small. -/
structure YInv (k : Nat) (y : Ly) : Prop where
  first : ∃ r d, y.regs = r :: d ∧ r.ind = true
  most : y.regs.length ≤ 64
  len : y.out.length + y.regs.length ≤ k
theorem YInv.pos {k : Nat} {y : Ly} (h : YInv k y) : 0 < y.regs.length := by obtain ⟨⟨r, d, e, _⟩, _⟩ := h; rw [e]; simp
theorem YInv.more {k j : Nat} {y : Ly} (h : YInv k y) (hj : k ≤ j) : YInv j y := ⟨h.first, h.most, Nat.le_trans h.len hj⟩
theorem YInv.outm {k : Nat} {y : Ly} {t : Tok} (h : YInv k y) (h1 : 1 < y.regs.length) : YInv k (outM y t) := by
  obtain ⟨⟨r, d, e, hi⟩, hm, hl⟩ := h
  have e1 : (outM y t).regs.length = y.regs.length - 1 := by simp [outM]
  have e2 : (outM y t).out.length = y.out.length + 1 := by simp [outM]
  refine ⟨?_, by omega, by omega⟩
  cases d with
  | nil => rw [e] at h1; simp at h1
  | cons a d => exact ⟨r, (a :: d).dropLast, by simp [outM, e], hi⟩
theorem dedK_inv {k : Nat} : ∀ (f : Nat) (y : Ly) (t : Tok) (c : Bool), YInv k y → YInv k (dedK f y t c).2 := by
  intro f
  induction f with
  | zero => intro y t c h; exact h
  | succ f ih =>
    intro y t c h
    rw [dedK]
    split
    · rename_i hc
      exact ih _ _ _ (h.outm hc.1)
    · exact h
theorem dedM_inv {k : Nat} {y z : Ly} {t : Tok} (h : dedM y t = .ok z) (hy : YInv k y) : YInv k z := by
  have h' : dedOut (dedK y.regs.length y t false) t = .ok z := h
  unfold dedOut at h'
  split at h'
  · cases h'
  · injection h' with h'
    subst h'
    exact dedK_inv _ _ _ _ hy
theorem clsK_inv {k : Nat} : ∀ (f : Nat) (y : Ly) (t : Tok), YInv k y → YInv k (clsK f y t) := by
  intro f
  induction f with
  | zero => intro y t h; exact h
  | succ f ih =>
    intro y t h
    rw [clsK]
    split
    · rename_i hc
      exact ih _ _ (h.outm hc.1)
    · exact h
theorem YInv.push {k : Nat} {y : Ly} {r : Rg} (h : YInv k y) (h1 : y.regs.length ≠ 64) : YInv (k + 1) { y with regs := y.regs ++ [r] } := by
  obtain ⟨⟨r0, d, e, hi⟩, hm, hl⟩ := h
  exact ⟨⟨r0, d ++ [r], by simp [e], hi⟩, by simp; omega, by simp; omega⟩
theorem YInv.put {k : Nat} {y : Ly} {t : Tok} (h : YInv k y) : YInv (k + 1) { y with out := y.out ++ [t] } :=
  ⟨h.first, h.most, by have := h.len; simp; omega⟩
theorem YInv.margin {k : Nat} {y : Ly} (h : YInv k y) (n : Nat) : YInv k { y with margin := n } := ⟨h.first, h.most, h.len⟩
theorem lendM_inv {k : Nat} {l : List Tok} {y z : Ly} {i : Nat} (h : lendM l y i = .ok z) (hy : YInv k y) : YInv (k + 2) z := by
  unfold lendM at h
  split at h
  · split at h
    · cases h
    · rename_i h64
      injection h with h
      subst h
      exact (hy.put (t := layM 12 (tk l i))).push (y := { y with out := y.out ++ [layM 12 (tk l i)] }) h64
  · split at h
    · cases h
    · rename_i z' hz
      have hi := dedM_inv hz hy
      split at h
      · injection h with h
        subst h
        exact hi.more (by omega)
      · injection h with h
        subst h
        exact (hi.put).more (by omega)
theorem closer_ind {r : Rg} {t : ByteArray} (h : ((closerM r.mark).toList == t.toList) = true) (hc : closesM t = true) : r.ind = false := by
  unfold Rg.ind
  by_cases hm : r.mark.toList = []
  · exfalso
    have e : closerM r.mark = ⟨#[]⟩ := by unfold closerM; rw [hm]; rfl
    rw [e] at h
    have ht : t.toList = [] := by
      have h2 := beq_iff_eq.1 h
      rw [← h2]
      decide +kernel
    unfold closesM at hc
    rw [ht] at hc
    exact absurd hc (by decide)
  · simpa using hm
theorem YInv.pop {k : Nat} {y : Ly} (h : YInv k y) (ht : y.top.ind = false) : YInv k { y with regs := y.regs.dropLast } := by
  obtain ⟨⟨r, d, e, hi⟩, hm, hl⟩ := h
  cases d with
  | nil => simp [Ly.top, e, hi] at ht
  | cons a d => exact ⟨⟨r, (a :: d).dropLast, by simp [e], hi⟩, by simp; omega, by simp; omega⟩
theorem bracketM_inv {k : Nat} {l : List Tok} {y z : Ly} {i : Nat} (h : bracketM l y i = .ok z) (hy : YInv k y) : YInv (k + 1) z := by
  unfold bracketM at h
  split at h
  · injection h with h; subst h; exact hy.more (by omega)
  · split at h
    · split at h
      · cases h
      · rename_i h64
        injection h with h
        subst h
        exact hy.push h64
    · split at h
      · injection h with h; subst h; exact hy.more (by omega)
      · rename_i hc
        unfold clsOut at h
        split at h
        · rename_i he
          injection h with h
          subst h
          exact ((clsK_inv _ _ _ hy).pop (closer_ind he (by simpa using hc))).more (by omega)
        · cases h
end Go.Proofs.YtcdidmohgcegmaaDoor
