/- Plain facts of the reader's model: every step keeps the reader well formed and moves on. No condition on memory. -/
import Derived.Test.YtcdidmohgcegmaaDoorPua
import Derived.Test.YtcdidmohgcegmaaDoorChc
import Derived.Test.YtcdidmohgcegmaaDoorNmc
namespace Go.Proofs.YtcdidmohgcegmaaDoor

structure Inv (k : Nat) (s : ByteArray) (r : Rd) : Prop where
  pos : r.pos ≤ s.size
  line : r.line ≤ r.pos
  ls : r.ls ≤ r.pos
  len : r.list.length ≤ 2 * r.pos + k
  opn : r.opn.length ≤ 64

/-- One token has been read. -/
structure Step1 (s : ByteArray) (r r' : Rd) : Prop where
  gt : r.pos < r'.pos
  le : r'.pos ≤ s.size
  line : r'.line = r.line
  ls : r'.ls = r.ls
  len : r'.list.length = r.list.length + 1
  opn : r'.opn.length ≤ 64
theorem Step1.inv {k : Nat} {s : ByteArray} {r r' : Rd} (h : Step1 s r r') (hI : Inv (k + 1) s r) : Inv k s r' :=
  ⟨h.le, by have := h.gt; have := h.line; have := hI.line; omega, by have := h.gt; have := h.ls; have := hI.ls; omega, by have := h.gt; have := h.len; have := hI.len; omega, h.opn⟩
theorem Inv.more {k : Nat} {s : ByteArray} {r : Rd} (h : Inv k s r) : Inv (k + 1) s r := ⟨h.pos, h.line, h.ls, by have := h.len; omega, h.opn⟩
theorem Inv.start {k : Nat} {s : ByteArray} {r : Rd} (h : Inv k s r) (n : Nat) : Inv k s { r with start := n } := ⟨h.pos, h.line, h.ls, h.len, h.opn⟩

theorem putM_step {s : ByteArray} {r : Rd} {kind en : Nat} {text : ByteArray} (h1 : r.pos < en) (h2 : en ≤ s.size) (h3 : r.opn.length ≤ 64) : Step1 s r (putM r kind text en) :=
  ⟨h1, h2, rfl, rfl, by simp [putM], h3⟩
theorem putNamedM_step {s : ByteArray} {r r' : Rd} {kind en : Nat} (h : putNamedM s r kind en = .ok r') (h1 : r.pos < en) (h2 : en ≤ s.size) (h3 : r.opn.length ≤ 64) : Step1 s r r' ∧ r'.pos = en := by
  unfold putNamedM at h
  split at h
  · cases h
  · cases h; exact ⟨putM_step h1 h2 h3, rfl⟩
theorem putMarkM_step {s : ByteArray} {r r' : Rd} {m : ByteArray} (h : putMarkM r m = .ok r') (h0 : r.start = r.pos) (hm : 0 < m.size) (h2 : r.pos + m.size ≤ s.size) (h3 : r.opn.length ≤ 64) : Step1 s r r' ∧ r'.pos = r.pos + m.size := by
  unfold putMarkM at h
  split at h
  · split at h
    · split at h
      · cases h
      · split at h
        · cases h
          exact ⟨⟨by simp [putM, h0]; omega, by simp [putM, h0]; exact h2, rfl, rfl, by simp [putM], by simp [putM]; omega⟩, by simp [putM, h0]⟩
        · cases h
    · cases h
      exact ⟨⟨by simp [putM, h0]; omega, by simp [putM, h0]; exact h2, rfl, rfl, by simp [putM], h3⟩, by simp [putM, h0]⟩
  · split at h
    · cases h
    · cases h
      exact ⟨⟨by simp [putM, h0]; omega, by simp [putM, h0]; exact h2, rfl, rfl, by simp [putM], by simp [putM]; omega⟩, by simp [putM, h0]⟩

theorem runM_gt {s : ByteArray} {f : Nat → Bool} {p : Nat} (h : p < s.size) (hf : f p = true) : p < runM s f p ∧ runM s f p ≤ s.size := by
  rw [runM_yes h hf]
  have := runM_le s f (p + 1) (by omega)
  omega
theorem ext_size {s : ByteArray} {a b : Nat} (h1 : a ≤ b) (h2 : b ≤ s.size) : (s.extract a b).size = b - a := by rw [ByteArray.size_extract]; omega

theorem numberM_step {s : ByteArray} {r r' : Rd} (h : numberM s r = .ok r') (hlt : r.pos < s.size) (hc : clsM (bt s r.pos) = 3) (h3 : r.opn.length ≤ 64) : Step1 s r r' := by
  have h1 := runM_gt (f := fun i => clsM (bt s i) == 3) hlt (by simp [hc])
  change r.pos < digEndM s r.pos ∧ digEndM s r.pos ≤ s.size at h1
  cases hl : (decide (digEndM s r.pos < s.size) && decide ((bt s (digEndM s r.pos)).toNat = 76)) with
  | false =>
    rw [numberM_short rfl hl] at h
    split at h
    · cases h
    · split at h
      · cases h
      · cases h; exact putM_step (by omega) (by omega) h3
  | true =>
    rw [numberM_long rfl hl] at h
    simp only [Bool.and_eq_true, decide_eq_true_eq] at hl
    split at h
    · cases h
    · split at h
      · cases h
      · cases h; exact putM_step (by omega) (by omega) h3
theorem operatorM_step {s : ByteArray} {r r' : Rd} (h : operatorM s r = .ok r') (h0 : r.start = r.pos) (hlt : r.pos < s.size) (hc : clsM (bt s r.pos) = 4) (hb : bcM (s.extract r.pos s.size) = false) (h3 : r.opn.length ≤ 64) : Step1 s r r' := by
  unfold operatorM at h
  have h1 := runM_gt (f := fun i => clsM (bt s i) == 4 && !bcM (s.extract i s.size)) hlt (by simp [hc, hb])
  change r.pos < opEndM s r.pos ∧ opEndM s r.pos ≤ s.size at h1
  generalize opEndM s r.pos = e0 at h h1
  simp only at h
  split at h
  · exact (putMarkM_step (s := s) h h0 (by rw [ext_size (by omega) h1.2]; omega) (by rw [ext_size (by omega) h1.2]; omega) h3).1
  · exact (putNamedM_step h h1.1 h1.2 h3).1
theorem charM_step {s : ByteArray} {r r' : Rd} (h : charM s r = .ok r') (h0 : r.start = r.pos) (h3 : r.opn.length ≤ 64) (hp : r.pos ≤ s.size) : Step1 s r r' := by
  unfold charM at h
  split at h
  · rename_i hf
    have h2 := fol_len hf
    have hz : (⟨#[39, 123]⟩ : ByteArray).size = 2 := rfl
    exact (putMarkM_step h h0 (by omega) (by omega) h3).1
  · split at h
    · cases h
    · rename_i l p hc
      have := charsM_le hc
      split at h
      · cases h; exact putM_step (by omega) (by omega) h3
      · cases h
theorem plainM_step {s : ByteArray} {r r' : Rd} (h : plainM s r = .ok r') (h3 : r.opn.length ≤ 64) : Step1 s r r' := by
  unfold plainM at h
  split at h
  · cases h
  · rename_i l p hc
    have := charsM_le hc
    cases h; exact putM_step (by omega) (by omega) h3
theorem spliceM_step {s : ByteArray} {r r' : Rd} (h : spliceM s r = .ok r') (h0 : r.start = r.pos) (h3 : r.opn.length ≤ 64) (hp : r.pos ≤ s.size) : Step1 s r r' := by
  unfold spliceM at h
  split at h
  · rename_i hf
    have h2 := fol_len hf
    have hz : (⟨#[36, 123]⟩ : ByteArray).size = 2 := rfl
    exact (putMarkM_step h h0 (by omega) (by omega) h3).1
  · cases h

theorem skipK_inv {s : ByteArray} {c : Nat} : ∀ (k : Nat) (r : Rd) (b : Bool) (r' : Rd), skipK s k r = .ok (b, r') → Inv c s r → Inv c s r' ∧ r.pos ≤ r'.pos ∧ r'.opn = r.opn ∧ r'.list = r.list ∧ (b = true → r'.pos < s.size ∧ fol s r'.pos ⟨#[47, 47]⟩ = false ∧ fol s r'.pos ⟨#[47, 42]⟩ = false ∧ clsM (bt s r'.pos) ≠ 1)
  | 0, r, b, r', h, hI => by cases h; exact ⟨hI, Nat.le_refl _, rfl, rfl, by simp⟩
  | k + 1, r, b, r', h, hI => by
    unfold skipK at h
    split at h
    · rename_i hlt
      split at h
      · have := skipK_inv (c := c) k _ b r' h ⟨by show r.pos + 1 ≤ _; omega, by show r.line + 1 ≤ r.pos + 1; have := hI.line; omega, by show r.pos + 1 ≤ r.pos + 1; omega, by show r.list.length ≤ 2 * (r.pos + 1) + c; have := hI.len; omega, hI.opn⟩
        exact ⟨this.1, by have := this.2.1; simp [lfM] at this; omega, this.2.2.1, this.2.2.2.1, this.2.2.2.2⟩
      · split at h
        · have := skipK_inv (c := c) k _ b r' h ⟨by show r.pos + 1 ≤ _; omega, by show r.line ≤ r.pos + 1; have := hI.line; omega, by show r.ls ≤ r.pos + 1; have := hI.ls; omega, by show r.list.length ≤ 2 * (r.pos + 1) + c; have := hI.len; omega, hI.opn⟩
          exact ⟨this.1, by have := this.2.1; simp at this; omega, this.2.2.1, this.2.2.2.1, this.2.2.2.2⟩
        · rename_i hc1
          split at h
          · rename_i hf
            have hgt := lineEnd_gt hf hlt
            have := skipK_inv (c := c) k _ b r' h ⟨hgt.2, by show r.line ≤ lineEndM s r.pos; have := hI.line; omega, by show r.ls ≤ lineEndM s r.pos; have := hI.ls; omega, by show r.list.length ≤ 2 * lineEndM s r.pos + c; have := hI.len; omega, hI.opn⟩
            exact ⟨this.1, by have := this.2.1; simp at this; omega, this.2.2.1, this.2.2.2.1, this.2.2.2.2⟩
          · rename_i hf1
            split at h
            · split at h
              · cases h
              · rename_i q hq
                have hmv := commentM_moved hq hI.pos hI.line hI.ls
                have := skipK_inv (c := c) k _ b r' h ⟨hmv.le, hmv.line, hmv.ls, by rw [hmv.list]; have := hI.len; have := hmv.gt; omega, by rw [hmv.opn]; exact hI.opn⟩
                exact ⟨this.1, by have := this.2.1; have := hmv.gt; omega, this.2.2.1.trans hmv.opn, this.2.2.2.1.trans hmv.list, this.2.2.2.2⟩
            · rename_i hf2
              cases h
              exact ⟨hI, Nat.le_refl _, rfl, rfl, fun _ => ⟨hlt, by simpa using hf1, by simpa using hf2, hc1⟩⟩
    · cases h; exact ⟨hI, Nat.le_refl _, rfl, rfl, by simp⟩
theorem skipM_inv {s : ByteArray} {c : Nat} {r r' : Rd} {b : Bool} (h : skipM s r = .ok (b, r')) (hI : Inv c s r) : Inv c s r' ∧ r.pos ≤ r'.pos ∧ r'.opn = r.opn ∧ r'.list = r.list ∧ (b = true → r'.pos < s.size ∧ fol s r'.pos ⟨#[47, 47]⟩ = false ∧ fol s r'.pos ⟨#[47, 42]⟩ = false ∧ clsM (bt s r'.pos) ≠ 1) := skipK_inv _ _ _ _ h hI

theorem partM_inv {s : ByteArray} {r r' : Rd} {b : Bool} (h : partM s r = .ok (b, r')) (hI : Inv 0 s r) : Inv 1 s r' ∧ r.pos ≤ r'.pos ∧ r'.pos < s.size := by
  unfold partM at h
  split at h
  · cases h
  · rename_i l p hc
    have := charsM_le hc
    cases h
    exact ⟨⟨by show p ≤ _; omega, by show r.line ≤ p; have := hI.line; omega, by show r.ls ≤ p; have := hI.ls; omega, by have := hI.len; simp [putM]; omega, hI.opn⟩, this.1, this.2⟩

/-- At a place that skip left, and in an expression: the model's token keeps the reader well formed and moves on. -/
def TokInv (tok : Rd → Except Flt Rd) (s : ByteArray) : Prop := ∀ (r r' : Rd), tok r = .ok r' → Inv 0 s r → r.pos < s.size → fol s r.pos ⟨#[47, 47]⟩ = false → fol s r.pos ⟨#[47, 42]⟩ = false → Inv 0 s r' ∧ r.pos < r'.pos

section
variable {tok : Rd → Except Flt Rd} {s : ByteArray}
theorem splicedK_inv (hT : TokInv tok s) {outer : Nat} : ∀ (k : Nat) (r r' : Rd), splicedK tok s outer k r = .ok r' → Inv 0 s r → Inv 0 s r' ∧ r.pos ≤ r'.pos
  | 0, _, _, h, _ => by cases h
  | k + 1, r, r', h, hI => by
    unfold splicedK at h
    split at h
    · split at h
      · cases h
      · cases h
      · rename_i q hq
        have h1 := skipM_inv hq hI
        have h1' := h1.2.2.2.2 rfl
        split at h
        · cases h
        · rename_i q2 hq2
          have h2 := hT _ _ hq2 h1.1 h1'.1 h1'.2.1 h1'.2.2.1
          have h3 := splicedK_inv hT k _ _ h h2.1
          exact ⟨h3.1, by have := h1.2.1; have := h2.2; have := h3.2; omega⟩
    · cases h; exact ⟨hI, Nat.le_refl _⟩
theorem splicedM_inv (hT : TokInv tok s) {r r' : Rd} (h : splicedM tok s r = .ok r') (hI : Inv 1 s r) (h0 : r.start = r.pos) (hp : r.pos + 2 ≤ s.size) : Inv 0 s r' ∧ r.pos < r'.pos := by
  unfold splicedM at h
  split at h
  · cases h
  · rename_i q hq
    have h1 := putMarkM_step (s := s) hq h0 (by decide) (by have hz : (⟨#[36, 123]⟩ : ByteArray).size = 2 := rfl; omega) hI.opn
    have h2 := splicedK_inv hT _ _ _ h (h1.1.inv hI)
    exact ⟨h2.1, by have := h1.1.gt; have := h2.2; omega⟩
theorem exprM_inv (hT : TokInv tok s) {r r' : Rd} (h : exprM tok s r = .ok r') (hI : Inv 1 s r) (hp : r.pos < s.size) : Inv 0 s r' ∧ r.pos < r'.pos := by
  unfold exprM at h
  split at h
  · rename_i hf
    have h2 := fol_len hf
    have hz : (⟨#[36, 123]⟩ : ByteArray).size = 2 := rfl
    have := splicedM_inv hT h (hI.start _) rfl (by show r.pos + 2 ≤ _; omega)
    exact this
  · simp only at h
    split at h
    · cases h
    · rename_i hc
      have hle := runM_le s (fun i => inWordM (bt s i)) (r.pos + 1) (by omega)
      change r.pos + 1 ≤ wordEndM s (r.pos + 1) ∧ wordEndM s (r.pos + 1) ≤ s.size at hle
      have h1 := putNamedM_step h (by show r.pos < _; omega) hle.2 hI.opn
      have h2 := h1.1.inv (hI.start (r.pos + 1))
      exact ⟨h2, h1.1.gt⟩
theorem interpK_inv (hT : TokInv tok s) : ∀ (k : Nat) (r r' : Rd), interpK tok s k r = .ok r' → Inv 0 s r → Inv 0 s r' ∧ r.pos < r'.pos
  | 0, _, _, h, _ => by cases h
  | k + 1, r, r', h, hI => by
    unfold interpK at h
    split at h
    · cases h
    · rename_i q hq
      have h1 := partM_inv hq hI
      cases h
      have h2 : Step1 s { q with start := q.pos } (putM { q with start := q.pos } 10 ⟨#[]⟩ (q.pos + 1)) := putM_step (by show q.pos < _; omega) (by omega) h1.1.opn
      exact ⟨h2.inv (h1.1.start _), by have := h2.gt; have := h1.2.1; simp [putM]; omega⟩
    · rename_i q hq
      have h1 := partM_inv hq hI
      split at h
      · cases h
      · rename_i q2 hq2
        have h2 := exprM_inv hT hq2 h1.1 h1.2.2
        have h3 := interpK_inv hT k _ _ h h2.1
        exact ⟨h3.1, by have := h1.2.1; have := h2.2; have := h3.2; omega⟩
theorem wordM_inv (hT : TokInv tok s) {r r' : Rd} (h : wordM tok s r = .ok r') (hI : Inv 0 s r) (h0 : r.start = r.pos) (hp : r.pos < s.size) (hc : clsM (bt s r.pos) = 2) : Inv 0 s r' ∧ r.pos < r'.pos := by
  unfold wordM at h
  have h1 := runM_gt (f := fun i => inWordM (bt s i)) hp (by simp [inWordM, hc])
  change r.pos < wordEndM s r.pos ∧ wordEndM s r.pos ≤ s.size at h1
  generalize wordEndM s r.pos = en at h h1
  simp only at h
  split at h
  · have := putMarkM_step (s := s) h h0 (by rw [ext_size (by omega) h1.2]; omega) (by rw [ext_size (by omega) h1.2]; omega) hI.opn
    exact ⟨this.1.inv hI.more, this.1.gt⟩
  · split at h
    · have := putNamedM_step h h1.1 h1.2 hI.opn
      exact ⟨this.1.inv hI.more, this.1.gt⟩
    · split at h
      · rename_i hf
        have h2 := fol_len hf
        have hz : (⟨#[34]⟩ : ByteArray).size = 1 := rfl
        split at h
        · cases h
        · rename_i q hq
          have h3 := putNamedM_step hq h1.1 h1.2 hI.opn
          have h4 : Inv 0 s q := h3.1.inv hI.more
          have h5 : Inv 0 s { q with pos := en + 1 } := ⟨by show en + 1 ≤ _; omega, by show q.line ≤ en + 1; have := h4.line; have := h3.2; omega, by show q.ls ≤ en + 1; have := h4.ls; have := h3.2; omega, by show q.list.length ≤ 2 * (en + 1) + 0; have := h4.len; have := h3.2; omega, h4.opn⟩
          have h6 := interpK_inv hT _ _ _ h h5
          exact ⟨h6.1, by have := h6.2; simp at this; omega⟩
      · have := putNamedM_step h h1.1 h1.2 hI.opn
        exact ⟨this.1.inv hI.more, this.1.gt⟩
theorem token_fin {r r' : Rd} (hI : Inv 0 s r) (h : Step1 s { r with start := r.pos } r') : Inv 0 s r' ∧ r.pos < r'.pos := ⟨h.inv (hI.start r.pos).more, h.gt⟩
set_option maxHeartbeats 1000000 in
theorem tokenF_inv (hT : TokInv tok s) : TokInv (tokenF tok s) s := by
  intro r r' h hI hp hf1 hf2
  unfold tokenF at h
  simp only at h
  have hb : bcM (s.extract r.pos s.size) = false := by unfold bcM; unfold fol at hf1 hf2; rw [hf1, hf2]; rfl
  by_cases h2 : clsM (bt s r.pos) = 2
  · rw [if_pos h2] at h
    have e1 : ({ r with start := r.pos } : Rd).start = ({ r with start := r.pos } : Rd).pos := rfl
    have e2 := wordM_inv (r := { r with start := r.pos }) hT h (hI.start r.pos) e1 hp h2
    exact ⟨e2.1, e2.2⟩
  rw [if_neg h2] at h
  by_cases h3 : clsM (bt s r.pos) = 3
  · rw [if_pos h3] at h; exact token_fin hI (numberM_step h hp h3 hI.opn)
  rw [if_neg h3] at h
  by_cases h4 : clsM (bt s r.pos) = 4
  · rw [if_pos h4] at h; exact token_fin hI (operatorM_step h rfl hp h4 hb hI.opn)
  rw [if_neg h4] at h
  by_cases h5 : clsM (bt s r.pos) = 5
  · rw [if_pos h5] at h
    have hz : (s.extract r.pos (r.pos + 1)).size = 1 := by rw [ext_size (by omega) (by omega)]; omega
    exact token_fin hI (putMarkM_step (s := s) h rfl (by omega) (by show r.pos + _ ≤ _; omega) hI.opn).1
  rw [if_neg h5] at h
  by_cases h6 : clsM (bt s r.pos) = 6
  · rw [if_pos h6] at h; exact token_fin hI (charM_step h rfl hI.opn hI.pos)
  rw [if_neg h6] at h
  by_cases h7 : clsM (bt s r.pos) = 7
  · rw [if_pos h7] at h; exact token_fin hI (plainM_step h hI.opn)
  rw [if_neg h7] at h
  by_cases h8 : clsM (bt s r.pos) = 8
  · rw [if_pos h8] at h; exact token_fin hI (spliceM_step h rfl hI.opn hI.pos)
  rw [if_neg h8] at h
  cases h
end
theorem tokenM_inv (s : ByteArray) : ∀ n, TokInv (tokenM s n) s
  | 0 => fun _ _ h => by cases h
  | n + 1 => tokenF_inv (tokenM_inv s n)
end Go.Proofs.YtcdidmohgcegmaaDoor
