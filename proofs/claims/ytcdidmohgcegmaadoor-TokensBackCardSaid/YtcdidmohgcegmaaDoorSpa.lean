/- Plain facts of the reader's model over two texts that agree on a window of bytes. No condition on memory. -/
import Derived.Test.YtcdidmohgcegmaaDoorPub
namespace Go.Proofs.YtcdidmohgcegmaaDoor

theorem bt_data (s : ByteArray) (i : Nat) (h : i < s.size) : s.data.toList[i]? = some (bt s i) := by
  have h' : i < s.data.toList.length := by simpa using h
  unfold bt
  rw [List.getD, List.getElem?_eq_getElem h']; rfl
theorem bt_out (s : ByteArray) (i : Nat) (h : s.size ≤ i) : bt s i = 0 := by
  have h' : s.data.toList.length ≤ i := by simpa using h
  unfold bt
  rw [List.getD, List.getElem?_eq_none h']; rfl
theorem bt_extract (s : ByteArray) (a b j : Nat) (hb : b ≤ s.size) (hj : a + j < b) : bt (s.extract a b) j = bt s (a + j) := by
  unfold bt
  rw [Go.Lib.extract_data]
  simp only [List.getD, List.getElem?_take, List.getElem?_drop]
  rw [if_pos (by omega)]
theorem bytes_ext {s t : ByteArray} (hl : s.size = t.size) (h : ∀ j, j < s.size → bt s j = bt t j) : s = t := by
  obtain ⟨⟨l⟩⟩ := s
  obtain ⟨⟨m⟩⟩ := t
  have : l = m := by
    apply List.ext_getElem?
    intro j
    have hl' : l.length = m.length := hl
    by_cases hj : j < l.length
    · have h2 := h j hj
      unfold bt at h2
      simp only [List.getD, List.getElem?_eq_getElem hj, List.getElem?_eq_getElem (show j < m.length by omega), Option.getD_some] at h2
      rw [List.getElem?_eq_getElem hj, List.getElem?_eq_getElem (show j < m.length by omega), h2]
    · rw [List.getElem?_eq_none (by omega), List.getElem?_eq_none (by omega)]
  rw [this]
theorem extract_same {s t : ByteArray} {a b a' b' : Nat} (hb : b ≤ s.size) (hb' : b' ≤ t.size) (hl : b' - a' = b - a) (h : ∀ j, j < b - a → bt t (a' + j) = bt s (a + j)) : t.extract a' b' = s.extract a b := by
  have e1 : (t.extract a' b').size = b' - a' := by rw [ByteArray.size_extract]; omega
  have e2 : (s.extract a b).size = b - a := by rw [ByteArray.size_extract]; omega
  refine bytes_ext (by omega) fun j hj => ?_
  rw [bt_extract _ _ _ _ hb' (by omega), bt_extract _ _ _ _ hb (by omega)]
  exact h j (by omega)

theorem fol_one (s : ByteArray) (p : Nat) (a : UInt8) : fol s p ⟨#[a]⟩ = (decide (p < s.size) && bt s p == a) := by
  unfold fol hpM
  rw [ByteArray.size_extract, Go.Lib.toList_data, Go.Lib.toList_data, Go.Lib.extract_data, Go.Lib.extract_data]
  by_cases hp : p < s.size
  · have h' : p < s.data.toList.length := by simpa using hp
    have e : (s.data.toList.drop p) = bt s p :: s.data.toList.drop (p + 1) := by
      rw [List.drop_eq_getElem_cons h']
      congr 1
      unfold bt
      rw [List.getD, List.getElem?_eq_getElem h']; rfl
    have hz : (⟨#[a]⟩ : ByteArray).size = 1 := rfl
    obtain ⟨m, hm⟩ : ∃ m, s.size - p = m + 1 := ⟨s.size - p - 1, by omega⟩
    have hmin : min s.size s.size - p = m + 1 := by omega
    rw [hz, e, hmin, hm, List.take_succ_cons]
    simp [hp]
  · have hz : (⟨#[a]⟩ : ByteArray).size = 1 := rfl
    rw [hz]
    simp [hp]
    intro; omega
theorem fol_two (s : ByteArray) (p : Nat) (a b : UInt8) : fol s p ⟨#[a, b]⟩ = (decide (p + 1 < s.size) && (bt s p == a && bt s (p + 1) == b)) := by
  unfold fol hpM
  rw [ByteArray.size_extract, Go.Lib.toList_data, Go.Lib.toList_data, Go.Lib.extract_data, Go.Lib.extract_data]
  by_cases hp : p + 1 < s.size
  · have h' : p < s.data.toList.length := by simp; omega
    have h'' : p + 1 < s.data.toList.length := by simp; omega
    have e : (s.data.toList.drop p) = bt s p :: bt s (p + 1) :: s.data.toList.drop (p + 2) := by
      rw [List.drop_eq_getElem_cons h', List.drop_eq_getElem_cons h'']
      congr 1
      · unfold bt
        rw [List.getD, List.getElem?_eq_getElem h']; rfl
      · congr 1
        unfold bt
        rw [List.getD, List.getElem?_eq_getElem h'']; rfl
    have hz : (⟨#[a, b]⟩ : ByteArray).size = 2 := rfl
    obtain ⟨m, hm⟩ : ∃ m, s.size - p = m + 1 + 1 := ⟨s.size - p - 2, by omega⟩
    have hmin : min s.size s.size - p = m + 1 + 1 := by omega
    rw [hz, e, hmin, hm, List.take_succ_cons, List.take_succ_cons]
    simp [hp]
  · have hz : (⟨#[a, b]⟩ : ByteArray).size = 2 := rfl
    rw [hz]
    simp [hp]
    intro; omega

theorem runK_spec (s : ByteArray) (f : Nat → Bool) : ∀ k p, s.size ≤ p + k → (∀ i, p ≤ i → i < runK s f k p → f i = true) ∧ (runK s f k p < s.size → f (runK s f k p) = false)
  | 0, p, h => ⟨fun i h1 h2 => by unfold runK at h2; omega, fun h2 => by unfold runK at h2; omega⟩
  | k + 1, p, h => by
    unfold runK
    split
    · rename_i hc
      simp only [Bool.and_eq_true, decide_eq_true_eq] at hc
      have ih := runK_spec s f k (p + 1) (by omega)
      refine ⟨fun i h1 h2 => ?_, ih.2⟩
      by_cases e : i = p
      · subst e; exact hc.2
      · exact ih.1 i (by omega) h2
    · rename_i hc
      refine ⟨fun i h1 h2 => by omega, fun h2 => ?_⟩
      simp only [Bool.and_eq_true, decide_eq_true_eq, not_and, Bool.not_eq_true] at hc
      exact hc h2
theorem runM_all {s : ByteArray} {f : Nat → Bool} {p i : Nat} (h1 : p ≤ i) (h2 : i < runM s f p) : f i = true := (runK_spec s f _ p (by omega)).1 i h1 h2
theorem runM_stop {s : ByteArray} {f : Nat → Bool} {p : Nat} (h : runM s f p < s.size) : f (runM s f p) = false := (runK_spec s f _ p (by omega)).2 h
theorem runM_uniq {s : ByteArray} {f : Nat → Bool} {n : Nat} (hn : n ≤ s.size) (hs : n < s.size → f n = false) : ∀ (k p : Nat), n = p + k → (∀ i, p ≤ i → i < n → f i = true) → runM s f p = n
  | 0, p, hk, _ => by
    have : p = n := by omega
    subst this
    by_cases h : p < s.size
    · exact runM_no (hs h)
    · exact runM_end (by omega)
  | k + 1, p, hk, h => by
    rw [runM_yes (by omega) (h p (by omega) (by omega))]
    exact runM_uniq hn hs k (p + 1) (by omega) fun i h1 h2 => h i (by omega) h2

/-- The bytes of s from lo to e stand in s', moved by d; behind them s' has a blank, or both texts end. -/
structure Win (s s' : ByteArray) (at_ lo e d : Nat) : Prop where
  le : e ≤ s.size
  le' : e + d ≤ s'.size
  by_ : ∀ i, lo ≤ i → i < e → bt s' (i + d) = bt s i
  tail : (e = s.size ∧ e + d = s'.size) ∨ (e + d < s'.size ∧ bt s' (e + d) = 32)
  sz : s'.size = s.size + 1
  d1 : d ≤ 1
  shift : ∀ p, lo ≤ p → p < e → (if p < at_ then p else p + 1) = p + d

section
variable {s s' : ByteArray} {at_ lo e d : Nat}
theorem Win.run (W : Win s s' at_ lo e d) {P : UInt8 → Bool} {p : Nat} (hlo : lo ≤ p) (hpe : p ≤ e) (h : runM s (fun i => P (bt s i)) p < e ∨ (runM s (fun i => P (bt s i)) p ≤ e ∧ P 32 = false)) :
    runM s' (fun i => P (bt s' i)) (p + d) = runM s (fun i => P (bt s i)) p + d := by
  have hw := W.le
  have hw' := W.le'
  have h0 := runM_le s (fun i => P (bt s i)) p (by omega)
  have ha := fun (i : Nat) (h1 : p ≤ i) (h2 : i < runM s (fun i => P (bt s i)) p) => runM_all h1 h2
  have hst := fun (h : runM s (fun i => P (bt s i)) p < s.size) => runM_stop h
  generalize runM s (fun i => P (bt s i)) p = n at h h0 ha hst ⊢
  have hne : n ≤ e := by omega
  refine runM_uniq (by omega) (fun hlt => ?_) (n - p) _ (by omega) fun i h1 h2 => ?_
  · rcases Nat.lt_or_ge n e with h1 | h1
    · rw [W.by_ n (by omega) h1]
      exact hst (by omega)
    · have : n = e := by omega
      subst this
      rcases W.tail with ⟨_, ht⟩ | ⟨_, ht⟩
      · omega
      · rw [ht]
        rcases h with h | h
        · omega
        · exact h.2
  · obtain ⟨j, rfl⟩ : ∃ j, i = j + d := ⟨i - d, by omega⟩
    rw [W.by_ j (by omega) (by omega)]
    exact ha j (by omega) (by omega)
theorem Win.ext (W : Win s s' at_ lo e d) {a b : Nat} (h1 : lo ≤ a) (h3 : b ≤ e) : s'.extract (a + d) (b + d) = s.extract a b := by
  have hw := W.le
  have hw' := W.le'
  refine extract_same (by omega) (by omega) (by omega) fun j hj => ?_
  rw [show a + d + j = (a + j) + d by omega]
  exact W.by_ _ (by omega) (by omega)
theorem Win.fol1 (W : Win s s' at_ lo e d) {a : UInt8} {i : Nat} (h1 : lo ≤ i) (h2 : i ≤ e) (ha : a ≠ 32) (h3 : i = e → fol s i ⟨#[a]⟩ = false) : fol s' (i + d) ⟨#[a]⟩ = fol s i ⟨#[a]⟩ := by
  have hw := W.le
  have hw' := W.le'
  by_cases he : i = e
  · rw [h3 he, fol_one]
    subst he
    rcases W.tail with ⟨_, ht⟩ | ⟨_, ht⟩
    · simp [ht]
    · rw [ht]; simp; intro _ h; exact ha h.symm
  · rw [fol_one, fol_one, W.by_ i h1 (by omega)]
    congr 1
    have e1 : i < s.size := by omega
    have e2 : i + d < s'.size := by omega
    simp [e1, e2]
theorem Win.fol2 (W : Win s s' at_ lo e d) {a b : UInt8} {i : Nat} (h1 : lo ≤ i) (h2 : i < e) (hb : b ≠ 32) (h3 : i + 1 = e → fol s i ⟨#[a, b]⟩ = false) : fol s' (i + d) ⟨#[a, b]⟩ = fol s i ⟨#[a, b]⟩ := by
  have hw := W.le
  have hw' := W.le'
  by_cases he : i + 1 = e
  · rw [h3 he, fol_two]
    rcases W.tail with ⟨_, ht⟩ | ⟨_, ht⟩
    · have : ¬(i + d + 1 < s'.size) := by omega
      simp [this]
    · rw [show i + d + 1 = e + d by omega, ht]; simp; intro _ _ h; exact hb h.symm
  · rw [fol_two, fol_two, W.by_ i h1 h2, show i + d + 1 = (i + 1) + d by omega, W.by_ (i + 1) (by omega) (by omega)]
    congr 1
    have e1 : i + 1 < s.size := by omega
    have e2 : i + 1 + d < s'.size := by omega
    simp [e1, e2]
end
end Go.Proofs.YtcdidmohgcegmaaDoor
