/- The layouter's model: Indents and Outdents match; Stop is last and alone; a fault has a code. Pure lemmas. -/
import Derived.Test.YtcdidmohgcegmaaDoorLyp
namespace Go.Proofs.YtcdidmohgcegmaaDoor
open Go.RowKit
set_option maxRecDepth 100000

theorem chkK_err : ∀ (f : Nat) (l : List Tok) (i : Nat) (g : Flt), chkK f l i = some g → g.code ≠ 0
  | 0, _, _, _, h => by cases h
  | f + 1, l, i, g, h => by
    unfold chkK at h
    split at h
    · split at h
      · cases h; simp
      · split at h
        · cases h; simp
        · exact chkK_err f _ _ _ h
    · split at h
      · cases h; simp
      · cases h
theorem dedM_err {y : Ly} {t : Tok} {g : Flt} (h : dedM y t = .error g) : g.code ≠ 0 := by
  have h' : dedOut (dedK y.regs.length y t false) t = .error g := h
  unfold dedOut at h'
  split at h'
  · cases h'; simp
  · cases h'
theorem lendM_err {l : List Tok} {y : Ly} {i : Nat} {g : Flt} (h : lendM l y i = .error g) : g.code ≠ 0 := by
  unfold lendM at h
  split at h
  · split at h
    · cases h; simp
    · cases h
  · split at h
    · rename_i f hf
      cases h
      exact dedM_err hf
    · split at h <;> cases h
theorem bracketM_err {l : List Tok} {y : Ly} {i : Nat} {g : Flt} (h : bracketM l y i = .error g) : g.code ≠ 0 := by
  unfold bracketM at h
  split at h
  · cases h
  · split at h
    · split at h
      · cases h; simp
      · cases h
    · split at h
      · cases h
      · unfold clsOut at h
        split at h
        · cases h
        · cases h; simp
theorem stopK_err : ∀ (f : Nat) (y : Ly) (t : Tok) (g : Flt), stopK f y t = .error g → g.code ≠ 0
  | 0, _, _, _, h => by cases h
  | f + 1, y, t, g, h => by
    unfold stopK at h
    split at h
    · split at h
      · exact stopK_err f _ _ _ h
      · cases h; simp
    · cases h
theorem roundsK_err : ∀ (f : Nat) (l : List Tok) (y : Ly) (i : Nat) (g : Flt), roundsK f l y i = .error g → g.code ≠ 0
  | 0, _, _, _, _, h => by cases h
  | f + 1, l, y, i, g, h => by
    unfold roundsK at h
    split at h
    · split at h
      · rename_i e he
        cases h
        unfold stepA at he
        split at he
        · split at he
          · exact lendM_err he
          · cases he
        · cases he
      · split at h
        · rename_i e he
          cases h
          unfold stepB at he
          split at he
          · rename_i e2 he2
            cases he
            exact bracketM_err he2
          · cases he
        · exact roundsK_err f _ _ _ _ h
    · exact stopK_err _ _ _ _ h
theorem lrunM_err {l : List Tok} {g : Flt} (h : lrunM l = .error g) : g.code ≠ 0 := by
  unfold lrunM at h
  split at h
  · rename_i f hf
    cases h
    exact chkK_err _ _ _ _ hf
  · split at h
    · cases h
    · split at h
      · rename_i f hf
        cases h
        exact roundsK_err _ _ _ _ _ hf
      · cases h
theorem scanM_err {s : ByteArray} {g : Flt} (h : scanM s = .error g) : g.code ≠ 0 := by
  unfold scanM at h
  split at h
  · rename_i f hf
    cases h
    exact rawM_err hf
  · exact lrunM_err h

/-- An Indent counts 1, an Outdent -1. -/
def dk (t : Tok) : Int := if t.kind = 12 then 1 else if t.kind = 13 then -1 else 0
def dsum : List Tok → Int
  | [] => 0
  | t :: l => dk t + dsum l
theorem dsum_append (a b : List Tok) : dsum (a ++ b) = dsum a + dsum b := by
  induction a with
  | nil => simp [dsum]
  | cons t l ih => simp [dsum, ih]; omega
def inds (l : List Rg) : Nat := (l.filter Rg.ind).length
/-- Every front's sum is at least 0; the sum is the indentations above the first; no Stop. -/
structure Bal (y : Ly) : Prop where
  front : ∀ n, 0 ≤ dsum (y.out.take n)
  sum : dsum y.out + 1 = inds y.regs
  first : ∃ r d, y.regs = r :: d ∧ r.ind = true
  stop : ∀ t ∈ y.out, t.kind ≠ 14
theorem front_snoc {l : List Tok} {t : Tok} (h : ∀ n, 0 ≤ dsum (l.take n)) (h1 : 0 ≤ dsum l + dk t) : ∀ n, 0 ≤ dsum ((l ++ [t]).take n) := by
  intro n
  rcases Nat.lt_or_ge l.length n with hn | hn
  · rw [List.take_of_length_le (by simp; omega), dsum_append]
    simpa [dsum] using h1
  · rw [List.take_append_of_le_length hn]
    exact h n
theorem inds_append (a b : List Rg) : inds (a ++ b) = inds a + inds b := by simp [inds]
theorem Bal.nonneg {y : Ly} (h : Bal y) : 0 ≤ dsum y.out := by
  have := h.front y.out.length
  rwa [List.take_length] at this
/-- A token that is neither Indent nor Outdent nor Stop. -/
theorem Bal.put {y : Ly} {t : Tok} (h : Bal y) (h1 : t.kind ≠ 12) (h2 : t.kind ≠ 13) (h3 : t.kind ≠ 14) : Bal { y with out := y.out ++ [t] } := by
  have hd : dk t = 0 := by simp [dk, h1, h2]
  refine ⟨front_snoc h.front (by rw [hd]; have := h.nonneg; omega), ?_, h.first, ?_⟩
  · show dsum (y.out ++ [t]) + 1 = _
    rw [dsum_append]
    simp only [dsum, hd]
    have := h.sum
    omega
  · intro u hu
    rcases List.mem_append.1 hu with hu | hu
    · exact h.stop u hu
    · simp only [List.mem_singleton] at hu
      rw [hu]; exact h3
theorem Bal.margin {y : Ly} (h : Bal y) (n : Nat) : Bal { y with margin := n } := ⟨h.front, h.sum, h.first, h.stop⟩
theorem Bal.open_ {y : Ly} {r : Rg} (h : Bal y) (hr : r.ind = false) : Bal { y with regs := y.regs ++ [r] } := by
  obtain ⟨r0, d, e, hi⟩ := h.first
  refine ⟨h.front, ?_, ⟨r0, d ++ [r], by simp [e], hi⟩, h.stop⟩
  show _ = ((inds (y.regs ++ [r]) : Nat) : Int)
  rw [inds_append]
  have := h.sum
  simp [inds, hr] at *
  omega
theorem Bal.indent {y : Ly} {r : Rg} {t : Tok} (h : Bal y) (hr : r.ind = true) (ht : t.kind = 12) : Bal { y with out := y.out ++ [t], regs := y.regs ++ [r] } := by
  obtain ⟨r0, d, e, hi⟩ := h.first
  have hd : dk t = 1 := by simp [dk, ht]
  refine ⟨front_snoc h.front (by rw [hd]; have := h.nonneg; omega), ?_, ⟨r0, d ++ [r], by simp [e], hi⟩, ?_⟩
  · show dsum (y.out ++ [t]) + 1 = ((inds (y.regs ++ [r]) : Nat) : Int)
    rw [inds_append, dsum_append]
    have := h.sum
    simp [inds, hr, dsum, hd] at *
    omega
  · intro u hu
    rcases List.mem_append.1 hu with hu | hu
    · exact h.stop u hu
    · simp only [List.mem_singleton] at hu
      rw [hu, ht]; decide
theorem top_split (y : Ly) (h : 0 < y.regs.length) : y.regs = y.regs.dropLast ++ [y.top] := by
  unfold Ly.top
  rcases List.eq_nil_or_concat y.regs with h0 | ⟨l, a, h0⟩
  · simp [h0] at h
  · simp [h0]
theorem Bal.outm {y : Ly} {t : Tok} (h : Bal y) (h1 : 1 < y.regs.length) (ht : y.top.ind = true) : Bal (outM y t) := by
  obtain ⟨r0, d, e, hi⟩ := h.first
  have hs := top_split y (by omega)
  have hd : dk (layM 13 t) = -1 := rfl
  have hsum := h.sum
  have hin : inds y.regs = inds y.regs.dropLast + 1 := by
    conv => lhs; rw [hs, inds_append]
    simp [inds, ht]
  have hpos : 1 ≤ inds y.regs.dropLast := by
    cases d with
    | nil => rw [e] at h1; simp at h1
    | cons a d => rw [e]; simp [inds, hi]
  refine ⟨front_snoc h.front (by rw [hd]; omega), ?_, ?_, ?_⟩
  · show dsum (y.out ++ [layM 13 t]) + 1 = ((inds y.regs.dropLast : Nat) : Int)
    rw [dsum_append]
    simp only [dsum, hd]
    omega
  · cases d with
    | nil => rw [e] at h1; simp at h1
    | cons a d => exact ⟨r0, (a :: d).dropLast, by simp [outM, e], hi⟩
  · intro u hu
    rcases List.mem_append.1 hu with hu | hu
    · exact h.stop u hu
    · simp only [List.mem_singleton] at hu
      rw [hu]
      show (13 : Nat) ≠ 14
      decide
theorem Bal.close {y : Ly} (h : Bal y) (ht : y.top.ind = false) : Bal { y with regs := y.regs.dropLast } := by
  obtain ⟨r0, d, e, hi⟩ := h.first
  have hs := top_split y (by rw [e]; simp)
  have hsum := h.sum
  have hin : inds y.regs = inds y.regs.dropLast := by
    conv => lhs; rw [hs, inds_append]
    simp [inds, ht]
  cases d with
  | nil => simp [Ly.top, e, hi] at ht
  | cons a d => exact ⟨h.front, by show dsum y.out + 1 = ((inds y.regs.dropLast : Nat) : Int); omega, ⟨r0, (a :: d).dropLast, by simp [e], hi⟩, h.stop⟩
theorem dedK_bal : ∀ (f : Nat) (y : Ly) (t : Tok) (c : Bool), Bal y → Bal (dedK f y t c).2 := by
  intro f
  induction f with
  | zero => intro y t c h; exact h
  | succ f ih =>
    intro y t c h
    rw [dedK]
    split
    · rename_i hc
      exact ih _ _ _ (h.outm hc.1 hc.2.1)
    · exact h
theorem dedM_bal {y z : Ly} {t : Tok} (h : dedM y t = .ok z) (hy : Bal y) : Bal z := by
  have h' : dedOut (dedK y.regs.length y t false) t = .ok z := h
  unfold dedOut at h'
  split at h'
  · cases h'
  · injection h' with h'
    subst h'
    exact dedK_bal _ _ _ _ hy
theorem clsK_bal : ∀ (f : Nat) (y : Ly) (t : Tok), Bal y → Bal (clsK f y t) := by
  intro f
  induction f with
  | zero => intro y t h; exact h
  | succ f ih =>
    intro y t h
    rw [clsK]
    split
    · rename_i hc
      exact ih _ _ (h.outm hc.1 hc.2)
    · exact h
theorem empty_ind (a b : Nat) : Rg.ind ⟨⟨#[]⟩, a, b⟩ = true := by
  show ((⟨#[]⟩ : ByteArray).toList == []) = true
  decide +kernel
theorem lendM_bal {l : List Tok} {y z : Ly} {i : Nat} (h : lendM l y i = .ok z) (hy : Bal y) : Bal z := by
  unfold lendM at h
  split at h
  · split at h
    · cases h
    · injection h with h
      subst h
      exact hy.indent (empty_ind _ _) rfl
  · split at h
    · cases h
    · rename_i z' hz
      have hi := dedM_bal hz hy
      split at h
      · injection h with h
        subst h
        exact hi
      · injection h with h
        subst h
        exact hi.put (t := layM 11 (tk l i)) (by show (11 : Nat) ≠ 12; decide) (by show (11 : Nat) ≠ 13; decide) (by show (11 : Nat) ≠ 14; decide)
theorem opener_ind {m : ByteArray} (h : (closerM m).toList.isEmpty = false) (a b : Nat) : Rg.ind ⟨m, a, b⟩ = false := by
  unfold Rg.ind
  by_cases hm : m.toList = []
  · exfalso
    have e : closerM m = ⟨#[]⟩ := by unfold closerM; rw [hm]; rfl
    rw [e] at h
    exact absurd h (by decide +kernel)
  · simpa using hm
theorem bracketM_bal {l : List Tok} {y z : Ly} {i : Nat} (h : bracketM l y i = .ok z) (hy : Bal y) : Bal z := by
  unfold bracketM at h
  split at h
  · injection h with h; subst h; exact hy
  · split at h
    · rename_i ho
      split at h
      · cases h
      · injection h with h
        subst h
        exact hy.open_ (opener_ind ho _ _)
    · split at h
      · injection h with h; subst h; exact hy
      · rename_i hc
        unfold clsOut at h
        split at h
        · rename_i he
          injection h with h
          subst h
          exact (clsK_bal _ _ _ hy).close (closer_ind he (by simpa using hc))
        · cases h
/-- A list that ends with its one Stop; in front of it Indents and Outdents match. -/
def Fin (o : List Tok) : Prop := ∃ pre t, o = pre ++ [t] ∧ t.kind = 14 ∧ (∀ u ∈ pre, u.kind ≠ 14) ∧ (∀ n, 0 ≤ dsum (pre.take n)) ∧ dsum pre = 0
theorem Bal.fin {y : Ly} {t : Tok} (h : Bal y) (h1 : ¬1 < y.regs.length) (ht : t.kind = 14) : Fin (y.out ++ [t]) := by
  obtain ⟨r0, d, e, hi⟩ := h.first
  have hd : d = [] := by
    cases d with
    | nil => rfl
    | cons a d => rw [e] at h1; simp at h1
  have hs := h.sum
  rw [e, hd] at hs
  refine ⟨y.out, t, rfl, ht, h.stop, h.front, ?_⟩
  simp [inds, hi] at hs
  omega
theorem stopK_bal : ∀ (f : Nat) (y z : Ly) (t : Tok), stopK f y t = .ok z → t.kind = 14 → Bal y → y.regs.length ≤ f → Fin z.out
  | 0, y, z, t, h, ht, hy, hf => by
    obtain ⟨r0, d, e, hi⟩ := hy.first
    rw [e] at hf
    simp at hf
  | f + 1, y, z, t, h, ht, hy, hf => by
    unfold stopK at h
    split at h
    · rename_i h1
      split at h
      · rename_i hi
        exact stopK_bal f _ _ _ h ht (hy.outm h1 hi) (by have : (outM y t).regs.length = y.regs.length - 1 := by simp [outM]
                                                         omega)
      · cases h
    · rename_i h1
      cases h
      exact hy.fin h1 ht
theorem roundsK_bal : ∀ (f : Nat) (l : List Tok) (y z : Ly) (i : Nat), roundsK f l y i = .ok z → (∀ j, j < l.length → (tk l j).kind ≤ 10) → Bal y → l.length < f + i → i ≤ l.length → Fin z.out
  | 0, _, _, _, _, _, _, _, hf, hi => by omega
  | f + 1, l, y, z, i, h, hk, hy, hf, hi => by
    unfold roundsK at h
    split at h
    · rename_i hlt
      split at h
      · cases h
      · rename_i y1 h1
        have b1 : Bal y1 := by
          unfold stepA at h1
          split at h1
          · split at h1
            · exact lendM_bal h1 (hy.margin _)
            · cases h1; exact hy.margin _
          · cases h1; exact hy
        split at h
        · cases h
        · rename_i y2 h2
          have b2 : Bal y2 := by
            unfold stepB at h2
            split at h2
            · cases h2
            · rename_i y3 h3
              cases h2
              have := hk i hlt
              exact (bracketM_bal h3 b1).put (by omega) (by omega) (by omega)
          exact roundsK_bal f l y2 z (i + 1) h hk b2 (by omega) (by omega)
    · exact stopK_bal _ _ _ _ h rfl hy (Nat.le_refl _)
theorem startLy_bal (l : List Tok) : Bal (startLy l) :=
  ⟨fun n => by simp [startLy, dsum], by simp [startLy, dsum, inds, empty_ind], ⟨_, [], rfl, empty_ind _ _⟩, fun t ht => by cases ht⟩
theorem lrunM_fin {l o : List Tok} (h : lrunM l = .ok o) : Fin o := by
  unfold lrunM at h
  split at h
  · cases h
  · rename_i hc
    obtain ⟨_, hk⟩ := chkK_none (l.length + 1) l 0 hc (Nat.zero_le _) (by omega)
    split at h
    · cases h
      exact ⟨[], _, rfl, rfl, fun u hu => (by cases hu), fun n => by simp [dsum], rfl⟩
    · split at h
      · cases h
      · rename_i y hy
        cases h
        exact roundsK_bal _ _ _ _ _ hy (fun j hj => (hk j (Nat.zero_le _) hj).1) (startLy_bal l) (by omega) (Nat.zero_le _)
theorem scanM_fin {s : ByteArray} {o : List Tok} (h : scanM s = .ok o) : Fin o := by
  unfold scanM at h
  split at h
  · cases h
  · exact lrunM_fin h
end Go.Proofs.YtcdidmohgcegmaaDoor
