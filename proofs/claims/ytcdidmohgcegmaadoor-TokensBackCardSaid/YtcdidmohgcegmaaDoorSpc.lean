/- Plain facts of the reader's model: what it reads inside of a window, it reads in the other text too (interpolated strings, tokens). No condition on memory. -/
import Derived.Test.YtcdidmohgcegmaaDoorSpb
namespace Go.Proofs.YtcdidmohgcegmaaDoor

def TokWin (s s' : ByteArray) (at_ lo e d : Nat) (tok tok' : Rd → Except Flt Rd) : Prop :=
  ∀ (r q r' : Rd), tok r = .ok q → Inv 0 s r → Tb s r.pos → lo ≤ r.pos → q.pos ≤ e → NoC s e q.pos → Sh at_ d r r' → ∃ q', tok' r' = .ok q' ∧ Sh at_ d q q'

section
variable {s s' : ByteArray} {at_ lo e d : Nat} {tok tok' : Rd → Except Flt Rd}
theorem noC_of (n : Nat) {m : Nat} (h : Tb s m) (h1 : n ≤ m) (h2 : m < e) : NoC s e n := fun he => by
  obtain rfl : n = m := by omega
  exact ⟨h.c1, h.c2⟩
theorem noC_bt {n : Nat} {b : UInt8} (h : bt s n = b) (hb : b ≠ 47) : NoC s e n := fun _ => by
  rw [fol_two, fol_two, h]
  have : (b == 47) = false := by simpa using hb
  simp [this]
theorem spliced_win (W : Win s s' at_ lo e d) (hT : TokInv tok s) (hw : TokWin s s' at_ lo e d tok tok') {outer : Nat} : ∀ (k k' : Nat) (r q r' : Rd), splicedK tok s outer k r = .ok q → Inv 0 s r → Sh at_ d r r' → lo ≤ r.pos → q.pos < e → NoC s e q.pos → k ≤ k' →
    ∃ q', splicedK tok' s' outer k' r' = .ok q' ∧ Sh at_ d q q'
  | 0, _, _, _, _, h, _, _, _, _, _, _ => by cases h
  | k + 1, k', r, q, r', h, hI, S, h1, h2, hN, hk => by
    obtain ⟨j, rfl⟩ : ∃ j, k' = j + 1 := ⟨k' - 1, by omega⟩
    unfold splicedK at h ⊢
    rw [S.len]
    split at h
    · rename_i c0
      rw [if_pos c0]
      split at h
      · cases h
      · cases h
      · rename_i z hz
        have g1 := skipM_inv hz hI
        have g1' := g1.2.2.2.2 rfl
        have g2 := skip_fin _ _ _ hz
        split at h
        · cases h
        · rename_i z2 hz2
          have g3 := hT _ _ hz2 g1.1 g1'.1 g1'.2.1 g1'.2.2.1
          have g4 := (splicedK_inv hT _ _ _ h g3.1).2
          have g5 := g1.2.1
          obtain ⟨z', hz', S'⟩ := skip_win W _ (s'.size + 1 - r'.pos) _ _ _ hz S h1 (by omega) (by have := W.sz; have := W.d1; have := S.pos; omega)
          have hN2 : NoC s e z2.pos := by
            cases k with
            | zero => cases h
            | succ m =>
              have h' := h
              unfold splicedK at h'
              split at h'
              · split at h'
                · cases h'
                · cases h'
                · rename_i y hy
                  have y1 := skipM_inv hy g3.1
                  have y1' := y1.2.2.2.2 rfl
                  split at h'
                  · cases h'
                  · rename_i y2 hy2
                    have y3 := hT _ _ hy2 y1.1 y1'.1 y1'.2.1 y1'.2.2.1
                    have y4 := (splicedK_inv hT _ _ _ h' y3.1).2
                    exact noC_of _ (skip_fin _ _ _ hy) y1.2.1 (by omega)
              · cases h'; exact hN
          obtain ⟨z2', hz2', S2⟩ := hw _ _ _ hz2 g1.1 g2 (by omega) (by omega) hN2 S'
          unfold skipM
          rw [hz']
          simp only
          rw [hz2']
          exact spliced_win W hT hw k j _ _ _ h g3.1 S2 (by omega) h2 hN (by omega)
    · rename_i c0
      rw [if_neg c0]
      cases h
      exact ⟨_, rfl, S⟩
theorem splicedM_win (W : Win s s' at_ lo e d) (hT : TokInv tok s) (hw : TokWin s s' at_ lo e d tok tok') {r q r' : Rd} (h : splicedM tok s r = .ok q) (hI : Inv 1 s r) (h0 : r.start = r.pos) (hp : r.pos + 2 ≤ s.size) (S : Sh at_ d r r') (hs : r'.start = r.start + d) (h1 : lo ≤ r.pos) (h2 : q.pos < e) (hN : NoC s e q.pos) :
    ∃ q', splicedM tok' s' r' = .ok q' ∧ Sh at_ d q q' := by
  unfold splicedM at h ⊢
  split at h
  · cases h
  · rename_i z hz
    have g1 := putMarkM_step (s := s) hz h0 (by decide) (by have hz : (⟨#[36, 123]⟩ : ByteArray).size = 2 := rfl; omega) hI.opn
    have g2 := splicedK_inv hT _ _ _ h (g1.1.inv hI)
    have g3 := g1.1.gt
    obtain ⟨z', hz', S'⟩ := putMark_win W hz S hs (by omega) (by omega)
    rw [hz']
    simp only
    rw [S.len]
    exact spliced_win W hT hw _ _ _ _ _ h (g1.1.inv hI) S' (by omega) h2 hN (by have := W.sz; have := W.d1; have := S'.pos; omega)
theorem expr_win (W : Win s s' at_ lo e d) (hT : TokInv tok s) (hw : TokWin s s' at_ lo e d tok tok') {r q r' : Rd} (h : exprM tok s r = .ok q) (hI : Inv 1 s r) (hp : r.pos < s.size) (S : Sh at_ d r r') (h1 : lo ≤ r.pos) (h2 : q.pos < e) (hN : NoC s e q.pos) :
    ∃ q', exprM tok' s' r' = .ok q' ∧ Sh at_ d q q' := by
  have g1 := (exprM_inv hT h hI hp).2
  have hwl := W.le
  unfold exprM at h ⊢
  rw [S.pos, W.fol2 h1 (by omega) (by decide) (fun he => by omega)]
  split at h
  · rename_i c
    have g2 := fol_len c
    have hz : (⟨#[36, 123]⟩ : ByteArray).size = 2 := rfl
    rw [if_pos c]
    exact splicedM_win (r' := { r' with start := r.pos + d }) W hT hw h (hI.start _) rfl (by show r.pos + 2 ≤ _; omega) (S.start _ _) rfl h1 h2 hN
  · rename_i c
    rw [if_neg c]
    simp only at h ⊢
    split at h
    · cases h
    · rename_i c2
      have g2 := putNamed_pos h
      have hle := runM_le s (fun i => inWordM (bt s i)) (r.pos + 1) (by omega)
      change r.pos + 1 ≤ wordEndM s (r.pos + 1) ∧ wordEndM s (r.pos + 1) ≤ s.size at hle
      rw [show r.pos + d + 1 = r.pos + 1 + d by omega, W.wordEnd (by omega) (by omega) (by omega), W.ext (by omega) (by omega), if_neg c2]
      exact putNamed_win (r' := { r' with start := r.pos + 1 + d }) W h (S.start _ _) rfl (by show lo ≤ r.pos + 1; omega) (by show r.pos + 1 < e; omega) (by omega)
theorem part_bt {r q : Rd} {b : Bool} (h : partM s r = .ok (b, q)) : b = decide ((bt s q.pos).toNat = 36) := by
  unfold partM at h
  split at h
  · cases h
  · cases h; rfl
theorem charsK_end {E O : Int} {st : Nat} : ∀ (k p : Nat) (acc l : List UInt8) (n : Nat), charsK s E O st k p acc = .ok (l, n) → ((bt s n).toNat : Int) = E ∨ ((bt s n).toNat : Int) = O
  | 0, _, _, _, _, h => by cases h
  | k + 1, p, acc, l, n, h => by
    unfold charsK at h
    split at h
    · split at h
      · rename_i c; cases h; exact c
      · split at h
        · cases h
        · exact charsK_end k _ _ _ _ h
    · cases h
theorem part_end {r q : Rd} {b : Bool} (h : partM s r = .ok (b, q)) : (bt s q.pos).toNat = 34 ∨ (bt s q.pos).toNat = 36 := by
  unfold partM at h
  split at h
  · cases h
  · rename_i l p hc
    cases h
    have := charsK_end _ _ _ _ _ hc
    show (bt s p).toNat = 34 ∨ (bt s p).toNat = 36
    omega
theorem part_first {r q : Rd} {b : Bool} (h : partM s r = .ok (b, q)) (he : q.pos + 1 ≤ e) : NoC s e r.pos := fun hr => by
  have h2 : q.pos = r.pos := by
    unfold partM at h
    split at h
    · cases h
    · rename_i l p hc
      have := charsM_le hc
      cases h
      simp [putM] at he ⊢
      omega
  have h3 := part_end h
  rw [h2] at h3
  refine noC_bt (e := e) (b := bt s r.pos) rfl (fun h => ?_) hr
  rw [h] at h3
  rcases h3 with h3 | h3 <;> exact absurd h3 (by decide)
theorem interp_win (W : Win s s' at_ lo e d) (hT : TokInv tok s) (hw : TokWin s s' at_ lo e d tok tok') : ∀ (k k' : Nat) (r q r' : Rd), interpK tok s k r = .ok q → Inv 0 s r → Sh at_ d r r' → lo ≤ r.pos → q.pos ≤ e → k ≤ k' →
    ∃ q', interpK tok' s' k' r' = .ok q' ∧ Sh at_ d q q'
  | 0, _, _, _, _, h, _, _, _, _, _ => by cases h
  | k + 1, k', r, q, r', h, hI, S, h1, h2, hk => by
    obtain ⟨j, rfl⟩ : ∃ j, k' = j + 1 := ⟨k' - 1, by omega⟩
    unfold interpK at h ⊢
    split at h
    · cases h
    · rename_i z hz
      have g1 := partM_inv hz hI
      cases h
      have h3 : z.pos + 1 ≤ e := h2
      obtain ⟨z', hz', S'⟩ := part_win W hz S h1 (by omega)
      rw [hz']
      refine ⟨_, rfl, ?_⟩
      rw [show z'.pos + 1 = z.pos + 1 + d by have := S'.pos; omega]
      exact putM_win (r := { z with start := z.pos }) (r' := { z' with start := z'.pos }) W (S'.start _ _) S'.pos (by show lo ≤ z.pos; have := g1.2.1; omega) (by show z.pos < e; omega) _ _ _
    · rename_i z hz
      have g1 := partM_inv hz hI
      split at h
      · cases h
      · rename_i z2 hz2
        have g2 := exprM_inv hT hz2 g1.1 g1.2.2
        have g3 := (interpK_inv hT _ _ _ h g2.1).2
        have g4 := g1.2.1
        have hN : NoC s e z2.pos := by
          cases k with
          | zero => cases h
          | succ m =>
            have h' := h
            unfold interpK at h'
            split at h'
            · cases h'
            · rename_i y hy
              cases h'
              exact part_first hy h2
            · rename_i y hy
              have y1 := partM_inv hy g2.1
              split at h'
              · cases h'
              · rename_i y2 hy2
                have y2' := exprM_inv hT hy2 y1.1 y1.2.2
                have y3 := (interpK_inv hT _ _ _ h' y2'.1).2
                exact part_first hy (by omega)
        obtain ⟨z', hz', S'⟩ := part_win W hz S h1 (by omega)
        obtain ⟨z2', hz2', S2⟩ := expr_win W hT hw hz2 g1.1 g1.2.2 S' (by omega) (by omega) hN
        rw [hz']
        simp only
        rw [hz2']
        exact interp_win W hT hw k j _ _ _ h g2.1 S2 (by omega) h2 (by omega)
theorem word_win (W : Win s s' at_ lo e d) (hT : TokInv tok s) (hw : TokWin s s' at_ lo e d tok tok') {r q r' : Rd} (h : wordM tok s r = .ok q) (hI : Inv 0 s r) (hst : r.start = r.pos) (hp : r.pos < s.size) (hc : clsM (bt s r.pos) = 2) (S : Sh at_ d r r') (hs : r'.start = r.start + d) (h1 : lo ≤ r.pos) (h2 : q.pos ≤ e) :
    ∃ q', wordM tok' s' r' = .ok q' ∧ Sh at_ d q q' := by
  have hwl := W.le
  have g0 := runM_gt (f := fun i => inWordM (bt s i)) hp (by simp [inWordM, hc])
  change r.pos < wordEndM s r.pos ∧ wordEndM s r.pos ≤ s.size at g0
  have gq := (wordM_inv hT h hI hst hp hc).2
  have hen : wordEndM s r.pos ≤ e ∧ (fol s (wordEndM s r.pos) ⟨#[34]⟩ = true → (s.extract r.pos (wordEndM s r.pos)).toList ≠ [95] → keywordM (s.extract r.pos (wordEndM s r.pos)) = false → wordEndM s r.pos < e) := by
    have h' := h
    unfold wordM at h'
    simp only at h'
    split at h'
    · have := putMark_pos h'
      rw [ext_size (by omega) g0.2] at this
      rename_i c
      exact ⟨by omega, fun _ hne => absurd (by simpa using c) hne⟩
    · split at h'
      · rename_i c2
        have := putNamed_pos h'
        exact ⟨by omega, fun _ _ hk => by rw [hk] at c2; cases c2⟩
      · split at h'
        · rename_i c3
          split at h'
          · cases h'
          · rename_i z hz
            have z1 := putNamedM_step hz g0.1 g0.2 hI.opn
            have z4 : Inv 0 s z := z1.1.inv hI.more
            have hf := fol_len c3
            have hz1 : (⟨#[34]⟩ : ByteArray).size = 1 := rfl
            have z5 : Inv 0 s { z with pos := wordEndM s r.pos + 1 } := ⟨by show wordEndM s r.pos + 1 ≤ _; omega, by show z.line ≤ wordEndM s r.pos + 1; have := z4.line; have := z1.2; omega, by show z.ls ≤ wordEndM s r.pos + 1; have := z4.ls; have := z1.2; omega, by show z.list.length ≤ 2 * (wordEndM s r.pos + 1) + 0; have := z4.len; have := z1.2; omega, z4.opn⟩
            have z6 := (interpK_inv hT _ _ _ h' z5).2
            simp at z6
            exact ⟨by omega, fun _ _ _ => by omega⟩
        · rename_i c3
          have := putNamed_pos h'
          exact ⟨by omega, fun hf => absurd hf c3⟩
  have hwe := W.wordEnd h1 (by omega) hen.1
  have hext : s'.extract r'.pos (wordEndM s' r'.pos) = s.extract r.pos (wordEndM s r.pos) := by rw [S.pos, hwe]; exact W.ext h1 hen.1
  unfold wordM at h ⊢
  simp only at h ⊢
  rw [hext]
  split at h
  · rename_i c
    rw [if_pos c]
    exact putMark_win W h S hs (by omega) (by omega)
  · rename_i c
    rw [if_neg c]
    split at h
    · rename_i c2
      rw [if_pos c2, S.pos, hwe]
      exact putNamed_win W h S hs (by omega) (by omega) hen.1
    · rename_i c2
      rw [if_neg c2]
      have hfol : fol s' (wordEndM s' r'.pos) ⟨#[34]⟩ = fol s (wordEndM s r.pos) ⟨#[34]⟩ := by
        rw [S.pos, hwe]
        refine W.fol1 (by omega) hen.1 (by decide) fun he => ?_
        cases hf : fol s (wordEndM s r.pos) ⟨#[34]⟩ with
        | false => rfl
        | true =>
          have := hen.2 hf (by simpa using c) (by simpa using c2)
          omega
      rw [hfol]
      split at h
      · rename_i c3
        rw [if_pos c3]
        have hf := fol_len c3
        have hz1 : (⟨#[34]⟩ : ByteArray).size = 1 := rfl
        split at h
        · cases h
        · rename_i z hz
          have z1 := putNamedM_step hz g0.1 g0.2 hI.opn
          have z4 : Inv 0 s z := z1.1.inv hI.more
          have z5 : Inv 0 s { z with pos := wordEndM s r.pos + 1 } := ⟨by show wordEndM s r.pos + 1 ≤ _; omega, by show z.line ≤ wordEndM s r.pos + 1; have := z4.line; have := z1.2; omega, by show z.ls ≤ wordEndM s r.pos + 1; have := z4.ls; have := z1.2; omega, by show z.list.length ≤ 2 * (wordEndM s r.pos + 1) + 0; have := z4.len; have := z1.2; omega, z4.opn⟩
          obtain ⟨z', hz', S'⟩ := putNamed_win W hz S hs (by omega) (by omega) hen.1
          rw [S.pos, hwe, hz']
          simp only
          rw [show wordEndM s r.pos + d + 1 = wordEndM s r.pos + 1 + d by omega]
          refine interp_win W hT hw _ _ _ _ _ h z5 (S'.at _) (by show lo ≤ wordEndM s r.pos + 1; omega) h2 ?_
          show s.size + 1 - (wordEndM s r.pos + 1) ≤ s'.size + 1 - (wordEndM s r.pos + 1 + d)
          have := W.sz
          have := W.d1
          omega
      · rename_i c3
        rw [if_neg c3, S.pos, hwe]
        exact putNamed_win W h S hs (by omega) (by omega) hen.1
theorem tokenF_win (W : Win s s' at_ lo e d) (hT : TokInv tok s) (hw : TokWin s s' at_ lo e d tok tok') : TokWin s s' at_ lo e d (tokenF tok s) (tokenF tok' s') := by
  intro r q r' h hI hB h1 h2 hN S
  have gq := (tokenF_inv hT _ _ h hI hB.lt hB.c1 hB.c2).2
  have hwl := W.le
  have f0 : bt s' r'.pos = bt s r.pos := by rw [S.pos]; exact W.by_ _ h1 (by omega)
  have S0 : Sh at_ d { r with start := r.pos } { r' with start := r'.pos } := S.start _ _
  unfold tokenF at h ⊢
  simp only at h ⊢
  rw [f0]
  split at h
  · rename_i c
    rw [if_pos c]
    exact word_win (r := { r with start := r.pos }) W hT hw h (hI.start _) rfl hB.lt c S0 S.pos h1 h2
  · rename_i c
    rw [if_neg c]
    split at h
    · rename_i c
      rw [if_pos c]
      exact number_win (r := { r with start := r.pos }) W h rfl S0 S.pos h1 (by show r.pos < e; omega) h2
    · rename_i c
      rw [if_neg c]
      split at h
      · rename_i c
        rw [if_pos c]
        exact operator_win (r := { r with start := r.pos }) W h rfl S0 S.pos h1 (by show r.pos < e; omega) h2 hN
      · rename_i c
        rw [if_neg c]
        split at h
        · rename_i c
          rw [if_pos c, S.pos, show r.pos + d + 1 = r.pos + 1 + d by omega, W.ext h1 (by omega), ← S.pos]
          exact putMark_win (r := { r with start := r.pos }) W h S0 S.pos h1 (by show r.pos < e; omega)
        · rename_i c
          rw [if_neg c]
          split at h
          · rename_i c
            rw [if_pos c]
            exact char_win (r := { r with start := r.pos }) W h rfl S0 S.pos h1 (by show r.pos < e; omega) h2
          · rename_i c
            rw [if_neg c]
            split at h
            · rename_i c
              rw [if_pos c]
              exact plain_win (r := { r with start := r.pos }) W h rfl S0 S.pos h1 (by show r.pos < e; omega) h2
            · rename_i c
              rw [if_neg c]
              split at h
              · rename_i c
                rw [if_pos c]
                exact splice_win (r := { r with start := r.pos }) W h rfl S0 S.pos h1 (by show r.pos < e; omega) h2
              · cases h
end
theorem tokenM_win {s s' : ByteArray} {at_ lo e d : Nat} (W : Win s s' at_ lo e d) : ∀ (n n' : Nat), n ≤ n' → TokWin s s' at_ lo e d (tokenM s n) (tokenM s' n')
  | 0, _, _ => fun _ _ _ h => by cases h
  | n + 1, n', hn => by
    obtain ⟨j, rfl⟩ : ∃ j, n' = j + 1 := ⟨n' - 1, by omega⟩
    exact tokenF_win W (tokenM_inv s n) (tokenM_win W n j (by omega))
end Go.Proofs.YtcdidmohgcegmaaDoor
