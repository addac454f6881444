/- Plain facts of the reader's model: the numbers of the tokens are at most the text's size. -/
import Derived.Test.YtcdidmohgcegmaaDoorPub
namespace Go.Proofs.YtcdidmohgcegmaaDoor

def TokS (s : ByteArray) (t : Tok) : Prop := t.pos ≤ s.size ∧ t.line ≤ s.size ∧ t.text.size ≤ s.size + 2
def SL (s : ByteArray) (r : Rd) : Prop := ∀ t ∈ r.list, TokS s t
theorem SL.putm {s : ByteArray} {r : Rd} {kind en : Nat} {text : ByteArray} (h : SL s r) (h1 : r.start ≤ s.size) (h2 : r.line ≤ s.size) (h3 : text.size ≤ s.size + 2) : SL s (putM r kind text en) := by
  intro t ht
  simp only [putM, List.mem_append, List.mem_singleton] at ht
  rcases ht with ht | rfl
  · exact h t ht
  · exact ⟨h1, h2, h3⟩
theorem ext_le (s : ByteArray) (a b : Nat) : (s.extract a b).size ≤ s.size + 2 := by rw [ByteArray.size_extract]; omega
theorem SL.putNamed {s : ByteArray} {r r' : Rd} {kind en : Nat} (h : putNamedM s r kind en = .ok r') (hs : SL s r) (h1 : r.start ≤ s.size) (h2 : r.line ≤ s.size) : SL s r' := by
  unfold putNamedM at h
  split at h
  · cases h
  · cases h; exact hs.putm h1 h2 (ext_le _ _ _)
theorem SL.putMark {s : ByteArray} {r r' : Rd} {m : ByteArray} (h : putMarkM r m = .ok r') (hs : SL s r) (h1 : r.start ≤ s.size) (h2 : r.line ≤ s.size) (hm : m.size ≤ s.size + 2) : SL s r' := by
  have hs' : ∀ o, SL s { r with opn := o } := fun o => hs
  unfold putMarkM at h
  split at h
  · split at h
    · split at h
      · cases h
      · split at h
        · cases h
          exact (hs' _).putm h1 h2 hm
        · cases h
    · cases h
      exact hs.putm h1 h2 hm
  · split at h
    · cases h
    · cases h
      exact (hs' _).putm h1 h2 hm
theorem charsK_len {s : ByteArray} {e o : Int} {st : Nat} : ∀ (k p : Nat) (acc l : List UInt8) (q : Nat), charsK s e o st k p acc = .ok (l, q) → l.length ≤ acc.length + k
  | 0, _, _, _, _, h => by cases h
  | k + 1, p, acc, l, q, h => by
    unfold charsK at h
    split at h
    · split at h
      · cases h; omega
      · split at h
        · cases h
        · have := charsK_len k _ _ _ _ h
          simp at this
          omega
    · cases h
theorem bytesOf_le {s : ByteArray} {e o : Int} {st p : Nat} {l : List UInt8} {q : Nat} (h : charsM s e o st p = .ok (l, q)) : (bytesOf l).size ≤ s.size + 2 := by
  have := charsK_len _ _ _ _ _ h
  have e1 : (bytesOf l).size = l.length := by simp [bytesOf, ByteArray.size]
  simp at this
  omega
theorem SL.number {s : ByteArray} {r r' : Rd} (h : numberM s r = .ok r') (hs : SL s r) (h1 : r.start ≤ s.size) (h2 : r.line ≤ s.size) : SL s r' := by
  cases hl : (decide (digEndM s r.pos < s.size) && decide ((bt s (digEndM s r.pos)).toNat = 76)) with
  | false =>
    rw [numberM_short rfl hl] at h
    split at h
    · cases h
    · split at h
      · cases h
      · cases h; exact hs.putm h1 h2 (ext_le _ _ _)
  | true =>
    rw [numberM_long rfl hl] at h
    split at h
    · cases h
    · split at h
      · cases h
      · cases h; exact hs.putm h1 h2 (ext_le _ _ _)
theorem SL.operator {s : ByteArray} {r r' : Rd} (h : operatorM s r = .ok r') (hs : SL s r) (h1 : r.start ≤ s.size) (h2 : r.line ≤ s.size) : SL s r' := by
  unfold operatorM at h
  simp only at h
  split at h
  · exact SL.putMark h hs h1 h2 (ext_le _ _ _)
  · exact SL.putNamed h hs h1 h2
theorem two_le (s : ByteArray) (a b : UInt8) : (⟨#[a, b]⟩ : ByteArray).size ≤ s.size + 2 := by
  have : (⟨#[a, b]⟩ : ByteArray).size = 2 := rfl
  omega
theorem SL.char {s : ByteArray} {r r' : Rd} (h : charM s r = .ok r') (hs : SL s r) (h1 : r.start ≤ s.size) (h2 : r.line ≤ s.size) : SL s r' := by
  unfold charM at h
  split at h
  · exact SL.putMark h hs h1 h2 (two_le _ _ _)
  · split at h
    · cases h
    · rename_i l p hc
      split at h
      · cases h; exact hs.putm h1 h2 (bytesOf_le hc)
      · cases h
theorem SL.plain {s : ByteArray} {r r' : Rd} (h : plainM s r = .ok r') (hs : SL s r) (h1 : r.start ≤ s.size) (h2 : r.line ≤ s.size) : SL s r' := by
  unfold plainM at h
  split at h
  · cases h
  · rename_i l p hc
    cases h; exact hs.putm h1 h2 (bytesOf_le hc)
theorem SL.splice {s : ByteArray} {r r' : Rd} (h : spliceM s r = .ok r') (hs : SL s r) (h1 : r.start ≤ s.size) (h2 : r.line ≤ s.size) : SL s r' := by
  unfold spliceM at h
  split at h
  · exact SL.putMark h hs h1 h2 (two_le _ _ _)
  · cases h
theorem SL.part {s : ByteArray} {r r' : Rd} {b : Bool} (h : partM s r = .ok (b, r')) (hs : SL s r) (h1 : r.pos ≤ s.size) (h2 : r.line ≤ s.size) : SL s r' := by
  unfold partM at h
  split at h
  · cases h
  · rename_i l p hc
    cases h
    exact SL.putm (r := { r with start := r.pos }) hs h1 h2 (bytesOf_le hc)
theorem SL.list {s : ByteArray} {r r' : Rd} (hs : SL s r) (h : r'.list = r.list) : SL s r' := by
  unfold SL
  rw [h]
  exact hs

/-- The model's token keeps the tokens small. -/
def TokSL (tok : Rd → Except Flt Rd) (s : ByteArray) : Prop := ∀ (r r' : Rd), tok r = .ok r' → Inv 0 s r → r.pos < s.size → fol s r.pos ⟨#[47, 47]⟩ = false → fol s r.pos ⟨#[47, 42]⟩ = false → SL s r → SL s r'
section
variable {tok : Rd → Except Flt Rd} {s : ByteArray}
theorem SL.splicedK (hT : TokInv tok s) (hL : TokSL tok s) {outer : Nat} : ∀ (k : Nat) (r r' : Rd), splicedK tok s outer k r = .ok r' → Inv 0 s r → SL s r → SL s r'
  | 0, _, _, h, _, _ => by cases h
  | k + 1, r, r', h, hI, hs => by
    unfold Go.Proofs.YtcdidmohgcegmaaDoor.splicedK at h
    split at h
    · split at h
      · cases h
      · cases h
      · rename_i q hq
        have h1 := skipM_inv hq hI
        have h1' := h1.2.2.2.2 rfl
        split at h
        · cases h
        · rename_i q2 hq2
          have h2 := hT _ _ hq2 h1.1 h1'.1 h1'.2.1 h1'.2.2.1
          exact SL.splicedK hT hL k _ _ h h2.1 (hL _ _ hq2 h1.1 h1'.1 h1'.2.1 h1'.2.2.1 (hs.list h1.2.2.2.1))
    · cases h; exact hs
theorem Inv.line_le {k : Nat} {r : Rd} (h : Inv k s r) : r.line ≤ s.size := Nat.le_trans h.line h.pos
theorem SL.splicedM (hT : TokInv tok s) (hL : TokSL tok s) {r r' : Rd} (h : splicedM tok s r = .ok r') (hI : Inv 1 s r) (h0 : r.start = r.pos) (hp : r.pos + 2 ≤ s.size) (hs : SL s r) : SL s r' := by
  unfold Go.Proofs.YtcdidmohgcegmaaDoor.splicedM at h
  split at h
  · cases h
  · rename_i q hq
    have h1 := putMarkM_step (s := s) hq h0 (by decide) (by have hz : (⟨#[36, 123]⟩ : ByteArray).size = 2 := rfl; omega) hI.opn
    exact SL.splicedK hT hL _ _ _ h (h1.1.inv hI) (SL.putMark hq hs (by omega) hI.line_le (two_le _ _ _))
theorem SL.expr (hT : TokInv tok s) (hL : TokSL tok s) {r r' : Rd} (h : exprM tok s r = .ok r') (hI : Inv 1 s r) (hp : r.pos < s.size) (hs : SL s r) : SL s r' := by
  unfold exprM at h
  split at h
  · rename_i hf
    have h2 := fol_len hf
    have hz : (⟨#[36, 123]⟩ : ByteArray).size = 2 := rfl
    exact SL.splicedM hT hL h (hI.start _) rfl (by show r.pos + 2 ≤ _; omega) hs
  · simp only at h
    split at h
    · cases h
    · exact SL.putNamed h hs (by show r.pos + 1 ≤ _; omega) hI.line_le
theorem SL.interpK (hT : TokInv tok s) (hL : TokSL tok s) : ∀ (k : Nat) (r r' : Rd), interpK tok s k r = .ok r' → Inv 0 s r → SL s r → SL s r'
  | 0, _, _, h, _, _ => by cases h
  | k + 1, r, r', h, hI, hs => by
    unfold Go.Proofs.YtcdidmohgcegmaaDoor.interpK at h
    split at h
    · cases h
    · rename_i q hq
      have h1 := partM_inv hq hI
      have hs1 := SL.part hq hs hI.pos hI.line_le
      cases h
      exact SL.putm (r := { q with start := q.pos }) hs1 (by show q.pos ≤ _; omega) h1.1.line_le (by show (0 : Nat) ≤ _; omega)
    · rename_i q hq
      have h1 := partM_inv hq hI
      have hs1 := SL.part hq hs hI.pos hI.line_le
      split at h
      · cases h
      · rename_i q2 hq2
        have h2 := exprM_inv hT hq2 h1.1 h1.2.2
        exact SL.interpK hT hL k _ _ h h2.1 (SL.expr hT hL hq2 h1.1 h1.2.2 hs1)
theorem SL.word (hT : TokInv tok s) (hL : TokSL tok s) {r r' : Rd} (h : wordM tok s r = .ok r') (hI : Inv 0 s r) (h0 : r.start = r.pos) (hp : r.pos < s.size) (hc : clsM (bt s r.pos) = 2) (hs : SL s r) : SL s r' := by
  unfold wordM at h
  have h1 := runM_gt (f := fun i => inWordM (bt s i)) hp (by simp [inWordM, hc])
  change r.pos < wordEndM s r.pos ∧ wordEndM s r.pos ≤ s.size at h1
  generalize wordEndM s r.pos = en at h h1
  simp only at h
  split at h
  · exact SL.putMark h hs (by omega) hI.line_le (ext_le _ _ _)
  · split at h
    · exact SL.putNamed h hs (by omega) hI.line_le
    · split at h
      · rename_i hf
        have h2 := fol_len hf
        have hz : (⟨#[34]⟩ : ByteArray).size = 1 := rfl
        split at h
        · cases h
        · rename_i q hq
          have h3 := putNamedM_step hq h1.1 h1.2 hI.opn
          have h4 : Inv 0 s q := h3.1.inv hI.more
          have h5 : Inv 0 s { q with pos := en + 1 } := ⟨by show en + 1 ≤ _; omega, by show q.line ≤ en + 1; have := h4.line; have := h3.2; omega, by show q.ls ≤ en + 1; have := h4.ls; have := h3.2; omega, by show q.list.length ≤ 2 * (en + 1) + 0; have := h4.len; have := h3.2; omega, h4.opn⟩
          have h7 : SL s q := SL.putNamed hq hs (by omega) hI.line_le
          exact SL.interpK hT hL _ _ _ h h5 h7
      · exact SL.putNamed h hs (by omega) hI.line_le
theorem tokenF_SL (hT : TokInv tok s) (hL : TokSL tok s) : TokSL (tokenF tok s) s := by
  intro r r' h hI hp _ _ hs
  unfold tokenF at h
  simp only at h
  have hs' : SL s { r with start := r.pos } := hs
  have a1 : ({ r with start := r.pos } : Rd).start ≤ s.size := by show r.pos ≤ _; omega
  have a2 : ({ r with start := r.pos } : Rd).line ≤ s.size := hI.line_le
  split at h
  · rename_i h2
    exact SL.word (r := { r with start := r.pos }) hT hL h (hI.start r.pos) rfl hp h2 hs'
  · split at h
    · exact SL.number h hs' a1 a2
    · split at h
      · exact SL.operator h hs' a1 a2
      · split at h
        · exact SL.putMark h hs' a1 a2 (ext_le _ _ _)
        · split at h
          · exact SL.char h hs' a1 a2
          · split at h
            · exact SL.plain h hs' a1 a2
            · split at h
              · exact SL.splice h hs' a1 a2
              · cases h
end
theorem tokenM_SL (s : ByteArray) : ∀ n, TokSL (tokenM s n) s
  | 0 => fun _ _ h => by cases h
  | n + 1 => tokenF_SL (tokenM_inv s n) (tokenM_SL s n)
theorem readK_SL (s : ByteArray) : ∀ (k : Nat) (r : Rd) (l : List Tok), readK s k r = .ok l → Inv 0 s r → SL s r → (∀ t ∈ l, TokS s t) ∧ l.length ≤ 2 * s.size
  | 0, _, _, h, _, _ => by cases h
  | k + 1, r, l, h, hI, hs => by
    unfold readK at h
    split at h
    · cases h
    · rename_i q hq
      have h1 := skipM_inv hq hI
      split at h
      · cases h
        exact ⟨hs.list h1.2.2.2.1, by have := h1.1.len; have := h1.1.pos; omega⟩
      · cases h
    · rename_i q hq
      have h1 := skipM_inv hq hI
      have h1' := h1.2.2.2.2 rfl
      split at h
      · cases h
      · rename_i q2 hq2
        have h2 := tokenM_inv s _ _ _ hq2 h1.1 h1'.1 h1'.2.1 h1'.2.2.1
        exact readK_SL s k _ _ h h2.1 (tokenM_SL s _ _ _ hq2 h1.1 h1'.1 h1'.2.1 h1'.2.2.1 (hs.list h1.2.2.2.1))
/-- Raw's tokens are small. -/
theorem rawM_small {s : ByteArray} {l : List Tok} (h : rawM s = .ok l) : (∀ t ∈ l, TokS s t) ∧ l.length ≤ 2 * s.size ∧ s.size ≤ 65536 := by
  unfold rawM at h
  split at h
  · cases h
  · rename_i hc
    have hsz : s.size ≤ 65536 := by
      unfold checkM at hc
      split at hc
      · cases hc
      · omega
    have := readK_SL s _ _ _ h ⟨Nat.zero_le _, Nat.le_refl _, Nat.le_refl _, Nat.zero_le _, Nat.zero_le _⟩ (fun t ht => by cases ht)
    exact ⟨this.1, this.2, hsz⟩
end Go.Proofs.YtcdidmohgcegmaaDoor
