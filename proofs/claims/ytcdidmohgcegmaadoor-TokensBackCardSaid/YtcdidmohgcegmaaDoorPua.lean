/- Plain facts of the reader's model: where its steps lead. No condition on memory. -/
import Derived.Test.YtcdidmohgcegmaaDoorCha
import Derived.Lib.Strings
namespace Go.Proofs.YtcdidmohgcegmaaDoor

theorem fol_bt {s : ByteArray} {p : Nat} {L : ByteArray} {c : UInt8} {l : List UInt8} (hL : L.data.toList = c :: l) (h : fol s p L = true) : bt s p = c := by
  unfold fol hpM at h
  simp only [Bool.and_eq_true, decide_eq_true_eq, beq_iff_eq] at h
  have h2 := h.2
  rw [toList_eq, toList_eq, Go.Lib.extract_data, Go.Lib.extract_data, hL] at h2
  have h3 := congrArg (fun x : List UInt8 => x[0]?) h2
  simp only [List.getElem?_cons_zero, List.drop_zero, List.getElem?_take, List.getElem?_drop, Nat.add_zero] at h3
  split at h3
  · split at h3
    · unfold bt
      rw [List.getD, h3]; rfl
    · cases h3
  · cases h3

theorem lineEnd_gt {s : ByteArray} {p : Nat} (h : fol s p ⟨#[47, 47]⟩ = true) (hp : p < s.size) : p < lineEndM s p ∧ lineEndM s p ≤ s.size := by
  have hb := fol_bt (L := ⟨#[47, 47]⟩) (c := 47) (l := [47]) rfl h
  unfold lineEndM
  rw [runM_yes hp (by rw [hb]; rfl)]
  have := runM_le s (fun i => bt s i != 10) (p + 1) (by omega)
  omega

theorem fol_len {s : ByteArray} {p : Nat} {L : ByteArray} (h : fol s p L = true) : L.size ≤ s.size - p := by
  unfold fol hpM at h
  simp only [Bool.and_eq_true, decide_eq_true_eq] at h
  have := h.1
  rw [ByteArray.size_extract] at this
  omega

/-- What a step that only moves on leaves alone. -/
structure Moved (s : ByteArray) (r r' : Rd) : Prop where
  gt : r.pos < r'.pos
  le : r'.pos ≤ s.size
  line : r'.line ≤ r'.pos
  ls : r'.ls ≤ r'.pos
  start : r'.start = r.start
  opn : r'.opn = r.opn
  list : r'.list = r.list

theorem commentK_moved {s : ByteArray} : ∀ (k : Nat) (r : Rd) (d : Nat) (r' : Rd), commentK s k r d = some r' → r.pos ≤ s.size → r.line ≤ r.pos → r.ls ≤ r.pos → Moved s r r'
  | 0, _, _, _, h, _, _, _ => by cases h
  | k + 1, r, d, r', h, hp, hl, hs => by
    unfold commentK at h
    split at h
    · rename_i hlt
      split at h
      · rename_i hf
        have h2 := fol_len hf
        have hz : (⟨#[47, 42]⟩ : ByteArray).size = 2 := rfl
        have := commentK_moved k _ _ r' h (by show r.pos + 2 ≤ _; omega) (by show r.line ≤ r.pos + 2; omega) (by show r.ls ≤ r.pos + 2; omega)
        exact ⟨by have := this.gt; simp at this; omega, this.le, this.line, this.ls, this.start, this.opn, this.list⟩
      · split at h
        · rename_i hf
          have h2 := fol_len hf
          have hz : (⟨#[42, 47]⟩ : ByteArray).size = 2 := rfl
          split at h
          · cases h
            exact ⟨by simp, by show r.pos + 2 ≤ _; omega, by show r.line ≤ r.pos + 2; omega, by show r.ls ≤ r.pos + 2; omega, rfl, rfl, rfl⟩
          · have := commentK_moved k _ _ r' h (by show r.pos + 2 ≤ _; omega) (by show r.line ≤ r.pos + 2; omega) (by show r.ls ≤ r.pos + 2; omega)
            exact ⟨by have := this.gt; simp at this; omega, this.le, this.line, this.ls, this.start, this.opn, this.list⟩
        · split at h
          · have := commentK_moved k _ _ r' h (by show r.pos + 1 ≤ _; omega) (by show r.line + 1 ≤ r.pos + 1; omega) (by show r.pos + 1 ≤ r.pos + 1; omega)
            exact ⟨by have := this.gt; simp [lfM] at this; omega, this.le, this.line, this.ls, this.start, this.opn, this.list⟩
          · have := commentK_moved k _ _ r' h (by show r.pos + 1 ≤ _; omega) (by show r.line ≤ r.pos + 1; omega) (by show r.ls ≤ r.pos + 1; omega)
            exact ⟨by have := this.gt; simp at this; omega, this.le, this.line, this.ls, this.start, this.opn, this.list⟩
    · cases h
theorem commentM_moved {s : ByteArray} {r r' : Rd} (h : commentM s r = some r') (hp : r.pos ≤ s.size) (hl : r.line ≤ r.pos) (hs : r.ls ≤ r.pos) : Moved s r r' := commentK_moved _ _ _ _ h hp hl hs
end Go.Proofs.YtcdidmohgcegmaaDoor
