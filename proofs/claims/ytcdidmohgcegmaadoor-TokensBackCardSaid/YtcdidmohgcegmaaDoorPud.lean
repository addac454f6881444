/- Plain facts of the reader's model: a fault's code is not 0 (the fuel does not run out). -/
import Derived.Test.YtcdidmohgcegmaaDoorPuc
namespace Go.Proofs.YtcdidmohgcegmaaDoor

theorem skipK_err {s : ByteArray} : ∀ (k : Nat) (r : Rd) (f : Flt), skipK s k r = .error f → f.code ≠ 0
  | 0, _, _, h => by cases h
  | k + 1, r, f, h => by
    unfold skipK at h
    split at h
    · split at h
      · exact skipK_err k _ f h
      · split at h
        · exact skipK_err k _ f h
        · split at h
          · exact skipK_err k _ f h
          · split at h
            · split at h
              · cases h; simp
              · exact skipK_err k _ f h
            · cases h
    · cases h
theorem putNamed_err {s : ByteArray} {r : Rd} {kind en : Nat} {f : Flt} (h : putNamedM s r kind en = .error f) : f.code ≠ 0 := by
  unfold putNamedM at h
  split at h
  · cases h; simp
  · cases h
theorem putMark_err {r : Rd} {m : ByteArray} {f : Flt} (h : putMarkM r m = .error f) : f.code ≠ 0 := by
  unfold putMarkM at h
  split at h
  · split at h
    · split at h
      · cases h; simp
      · split at h
        · cases h
        · cases h; simp
    · cases h
  · split at h
    · cases h; simp
    · cases h
theorem number_err {s : ByteArray} {r : Rd} {f : Flt} (h : numberM s r = .error f) : f.code ≠ 0 := by
  cases hl : (decide (digEndM s r.pos < s.size) && decide ((bt s (digEndM s r.pos)).toNat = 76)) with
  | false =>
    rw [numberM_short rfl hl] at h
    split at h
    · cases h; simp
    · split at h
      · cases h; simp
      · cases h
  | true =>
    rw [numberM_long rfl hl] at h
    split at h
    · cases h; simp
    · split at h
      · cases h; simp
      · cases h
theorem operator_err {s : ByteArray} {r : Rd} {f : Flt} (h : operatorM s r = .error f) : f.code ≠ 0 := by
  unfold operatorM at h
  simp only at h
  split at h
  · exact putMark_err h
  · exact putNamed_err h
theorem charsK_err {s : ByteArray} {e o : Int} {st : Nat} : ∀ (k p : Nat) (acc : List UInt8) (f : Flt), charsK s e o st k p acc = .error f → f.code ≠ 0
  | 0, _, _, _, h => by cases h; simp
  | k + 1, p, acc, f, h => by
    unfold charsK at h
    split at h
    · split at h
      · cases h
      · split at h
        · cases h; simp
        · exact charsK_err k _ _ _ h
    · cases h; simp
theorem char_err {s : ByteArray} {r : Rd} {f : Flt} (h : charM s r = .error f) : f.code ≠ 0 := by
  unfold charM at h
  split at h
  · exact putMark_err h
  · split at h
    · rename_i g hc
      cases h
      exact charsK_err _ _ _ _ hc
    · split at h
      · cases h
      · cases h; simp
theorem plain_err {s : ByteArray} {r : Rd} {f : Flt} (h : plainM s r = .error f) : f.code ≠ 0 := by
  unfold plainM at h
  split at h
  · rename_i g hc
    cases h
    exact charsK_err _ _ _ _ hc
  · cases h
theorem splice_err {s : ByteArray} {r : Rd} {f : Flt} (h : spliceM s r = .error f) : f.code ≠ 0 := by
  unfold spliceM at h
  split at h
  · exact putMark_err h
  · cases h; simp
theorem part_err {s : ByteArray} {r : Rd} {f : Flt} (h : partM s r = .error f) : f.code ≠ 0 := by
  unfold partM at h
  split at h
  · rename_i g hc
    cases h
    exact charsK_err _ _ _ _ hc
  · cases h

/-- Behind place m the model's token fails with a code. -/
def TokErr (tok : Rd → Except Flt Rd) (s : ByteArray) (m : Nat) : Prop := ∀ (r : Rd) (f : Flt), tok r = .error f → Inv 0 s r → r.pos < s.size → fol s r.pos ⟨#[47, 47]⟩ = false → fol s r.pos ⟨#[47, 42]⟩ = false → m < r.pos → f.code ≠ 0
section
variable {tok : Rd → Except Flt Rd} {s : ByteArray} {m : Nat}
theorem splicedK_err (hT : TokInv tok s) (hE : TokErr tok s m) {outer : Nat} : ∀ (k : Nat) (r : Rd) (f : Flt), splicedK tok s outer k r = .error f → Inv 0 s r → m < r.pos → s.size < k + r.pos → f.code ≠ 0
  | 0, _, _, _, hI, _, hk => by have := hI.pos; omega
  | k + 1, r, f, h, hI, hm, hk => by
    unfold splicedK at h
    split at h
    · split at h
      · rename_i g hq
        cases h
        exact skipK_err _ _ _ hq
      · cases h; simp
      · rename_i q hq
        have h1 := skipM_inv hq hI
        have h1' := h1.2.2.2.2 rfl
        split at h
        · rename_i g hg
          cases h
          exact hE _ _ hg h1.1 h1'.1 h1'.2.1 h1'.2.2.1 (by have := h1.2.1; omega)
        · rename_i q2 hq2
          have h2 := hT _ _ hq2 h1.1 h1'.1 h1'.2.1 h1'.2.2.1
          exact splicedK_err hT hE k _ _ h h2.1 (by have := h1.2.1; have := h2.2; omega) (by have := h1.2.1; have := h2.2; omega)
    · cases h
theorem splicedM_err (hT : TokInv tok s) (hE : TokErr tok s m) {r : Rd} {f : Flt} (h : splicedM tok s r = .error f) (hI : Inv 1 s r) (h0 : r.start = r.pos) (hp : r.pos + 2 ≤ s.size) (hm : m ≤ r.pos) : f.code ≠ 0 := by
  unfold splicedM at h
  split at h
  · rename_i g hg
    cases h
    exact putMark_err hg
  · rename_i q hq
    have h1 := putMarkM_step (s := s) hq h0 (by decide) (by have hz : (⟨#[36, 123]⟩ : ByteArray).size = 2 := rfl; omega) hI.opn
    have h2 := h1.1.gt
    have h3 := h1.1.le
    exact splicedK_err hT hE _ _ _ h (h1.1.inv hI) (by omega) (by omega)
theorem expr_err (hT : TokInv tok s) (hE : TokErr tok s m) {r : Rd} {f : Flt} (h : exprM tok s r = .error f) (hI : Inv 1 s r) (hm : m ≤ r.pos) : f.code ≠ 0 := by
  unfold exprM at h
  split at h
  · rename_i hf
    have h2 := fol_len hf
    have hz : (⟨#[36, 123]⟩ : ByteArray).size = 2 := rfl
    exact splicedM_err hT hE h (hI.start _) rfl (by show r.pos + 2 ≤ _; have := hI.pos; omega) hm
  · simp only at h
    split at h
    · cases h; simp
    · exact putNamed_err h
theorem interpK_err (hT : TokInv tok s) (hE : TokErr tok s m) : ∀ (k : Nat) (r : Rd) (f : Flt), interpK tok s k r = .error f → Inv 0 s r → m ≤ r.pos → s.size < k + r.pos → f.code ≠ 0
  | 0, _, _, _, hI, _, hk => by have := hI.pos; omega
  | k + 1, r, f, h, hI, hm, hk => by
    unfold interpK at h
    split at h
    · rename_i g hg
      cases h
      exact part_err hg
    · cases h
    · rename_i q hq
      have h1 := partM_inv hq hI
      split at h
      · rename_i g hg
        cases h
        exact expr_err hT hE hg h1.1 (by have := h1.2.1; omega)
      · rename_i q2 hq2
        have h2 := exprM_inv hT hq2 h1.1 h1.2.2
        exact interpK_err hT hE k _ _ h h2.1 (by have := h1.2.1; have := h2.2; omega) (by have := h1.2.1; have := h2.2; omega)
theorem word_err (hT : TokInv tok s) (hE : TokErr tok s m) {r : Rd} {f : Flt} (h : wordM tok s r = .error f) (hI : Inv 0 s r) (hp : r.pos < s.size) (hc : clsM (bt s r.pos) = 2) (hm : m ≤ r.pos) : f.code ≠ 0 := by
  unfold wordM at h
  have h1 := runM_gt (f := fun i => inWordM (bt s i)) hp (by simp [inWordM, hc])
  change r.pos < wordEndM s r.pos ∧ wordEndM s r.pos ≤ s.size at h1
  generalize wordEndM s r.pos = en at h h1
  simp only at h
  split at h
  · exact putMark_err h
  · split at h
    · exact putNamed_err h
    · split at h
      · rename_i hf
        have h2 := fol_len hf
        have hz : (⟨#[34]⟩ : ByteArray).size = 1 := rfl
        split at h
        · rename_i g hg
          cases h
          exact putNamed_err hg
        · rename_i q hq
          have h3 := putNamedM_step hq h1.1 h1.2 hI.opn
          have h4 : Inv 0 s q := h3.1.inv hI.more
          have h5 : Inv 0 s { q with pos := en + 1 } := ⟨by show en + 1 ≤ _; omega, by show q.line ≤ en + 1; have := h4.line; have := h3.2; omega, by show q.ls ≤ en + 1; have := h4.ls; have := h3.2; omega, by show q.list.length ≤ 2 * (en + 1) + 0; have := h4.len; have := h3.2; omega, h4.opn⟩
          exact interpK_err hT hE _ _ _ h h5 (by show m ≤ en + 1; omega) (by show s.size < s.size + 1 - (en + 1) + (en + 1); omega)
      · exact putNamed_err h
theorem tokenF_err (hT : TokInv tok s) {r : Rd} {f : Flt} (hE : TokErr tok s r.pos) (h : tokenF tok s r = .error f) (hI : Inv 0 s r) (hp : r.pos < s.size) : f.code ≠ 0 := by
  unfold tokenF at h
  simp only at h
  split at h
  · rename_i h2
    exact word_err (r := { r with start := r.pos }) hT hE h (hI.start r.pos) hp h2 (Nat.le_refl _)
  · split at h
    · exact number_err h
    · split at h
      · exact operator_err h
      · split at h
        · exact putMark_err h
        · split at h
          · exact char_err h
          · split at h
            · exact plain_err h
            · split at h
              · exact splice_err h
              · cases h; simp
end
theorem tokenM_err (s : ByteArray) : ∀ (n : Nat) (r : Rd) (f : Flt), tokenM s n r = .error f → Inv 0 s r → r.pos < s.size → s.size < n + r.pos → f.code ≠ 0
  | 0, _, _, _, _, hp, hn => by omega
  | n + 1, r, f, h, hI, hp, hn => tokenF_err (tokenM_inv s n) (fun r2 f2 h2 hI2 hp2 _ _ hm => tokenM_err s n r2 f2 h2 hI2 hp2 (by omega)) h hI hp
theorem readK_err (s : ByteArray) : ∀ (k : Nat) (r : Rd) (f : Flt), readK s k r = .error f → Inv 0 s r → s.size + 1 < k + r.pos → f.code ≠ 0
  | 0, _, _, _, hI, hk => by have := hI.pos; omega
  | k + 1, r, f, h, hI, hk => by
    unfold readK at h
    split at h
    · rename_i g hq
      cases h
      exact skipK_err _ _ _ hq
    · split at h
      · cases h
      · cases h; simp
    · rename_i q hq
      have h1 := skipM_inv hq hI
      have h1' := h1.2.2.2.2 rfl
      split at h
      · rename_i g hg
        cases h
        exact tokenM_err s _ _ _ hg h1.1 h1'.1 (by have := h1'.1; omega)
      · rename_i q2 hq2
        have h2 := tokenM_inv s _ _ _ hq2 h1.1 h1'.1 h1'.2.1 h1'.2.2.1
        exact readK_err s k _ _ h h2.1 (by have := h1.2.1; have := h2.2; omega)
/-- A fault of Raw has a code. -/
theorem rawM_err {s : ByteArray} {f : Flt} (h : rawM s = .error f) : f.code ≠ 0 := by
  unfold rawM at h
  split at h
  · rename_i g hc
    cases h
    unfold checkM at hc
    split at hc
    · cases hc; simp
    · split at hc
      · cases hc; simp
      · cases hc
  · exact readK_err s _ _ _ h ⟨Nat.zero_le _, Nat.le_refl _, Nat.le_refl _, Nat.zero_le _, Nat.zero_le _⟩ (by show s.size + 1 < s.size + 2 + 0; omega)
end Go.Proofs.YtcdidmohgcegmaaDoor
