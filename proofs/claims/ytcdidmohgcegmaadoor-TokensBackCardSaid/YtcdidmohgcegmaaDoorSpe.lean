/- Plain facts of the reader's model: a blank in front of a token that is not inside of an interpolated string changes only places. No condition on memory. -/
import Derived.Test.YtcdidmohgcegmaaDoorSpd
import Derived.Test.YtcdidmohgcegmaaDoorPuc
namespace Go.Proofs.YtcdidmohgcegmaaDoor

section
variable {s s' : ByteArray} {at_ lo e d : Nat}
theorem Win.run_end (W : Win s s' at_ lo e d) (he : e = s.size ∧ e + d = s'.size) {P : UInt8 → Bool} {p : Nat} (hlo : lo ≤ p) (hpe : p ≤ e) :
    runM s' (fun i => P (bt s' i)) (p + d) = runM s (fun i => P (bt s i)) p + d := by
  have h0 := runM_le s (fun i => P (bt s i)) p (by omega)
  have ha := fun (i : Nat) (h1 : p ≤ i) (h2 : i < runM s (fun i => P (bt s i)) p) => runM_all h1 h2
  have hst := fun (h : runM s (fun i => P (bt s i)) p < s.size) => runM_stop h
  generalize runM s (fun i => P (bt s i)) p = n at h0 ha hst ⊢
  refine runM_uniq (by omega) (fun hlt => ?_) (n - p) _ (by omega) fun i h1 h2 => ?_
  · rw [W.by_ n (by omega) (by omega)]
    exact hst (by omega)
  · obtain ⟨j, rfl⟩ : ∃ j, i = j + d := ⟨i - d, by omega⟩
    rw [W.by_ j (by omega) (by omega)]
    exact ha j (by omega) (by omega)
theorem fol2_last {n : Nat} {a b : UInt8} (h : s.size ≤ n + 1) : fol s n ⟨#[a, b]⟩ = false := by
  rw [fol_two]
  have : ¬(n + 1 < s.size) := by omega
  simp [this]
theorem skip_end (W : Win s s' at_ lo e d) (he : e = s.size ∧ e + d = s'.size) : ∀ (k : Nat) (b : Bool) (r q r' : Rd), skipK s k r = .ok (b, q) → Sh at_ d r r' → lo ≤ r.pos → r.pos ≤ s.size → r.line ≤ r.pos → r.ls ≤ r.pos → ∃ q', skipK s' k r' = .ok (b, q') ∧ Sh at_ d q q'
  | 0, _, _, _, _, h, S, _, _, _, _ => by cases h; exact ⟨_, rfl, S⟩
  | k + 1, b, r, q, r', h, S, h1, h2, h3, h4 => by
    unfold skipK at h ⊢
    have hp := S.pos
    split at h
    · rename_i c0
      have f1 : fol s' r'.pos ⟨#[10]⟩ = fol s r.pos ⟨#[10]⟩ := by rw [hp]; exact W.fol1 h1 (by omega) (by decide) (fun he => by omega)
      have f0 : bt s' r'.pos = bt s r.pos := by rw [hp]; exact W.by_ _ h1 (by omega)
      have f2 : fol s' r'.pos ⟨#[47, 47]⟩ = fol s r.pos ⟨#[47, 47]⟩ := by rw [hp]; exact W.fol2 h1 (by omega) (by decide) (fun _ => fol2_last (by omega))
      have f4 : fol s' r'.pos ⟨#[47, 42]⟩ = fol s r.pos ⟨#[47, 42]⟩ := by rw [hp]; exact W.fol2 h1 (by omega) (by decide) (fun _ => fol2_last (by omega))
      rw [f1, f0, f2, f4, if_pos (by omega)]
      split at h
      · rename_i c1
        rw [if_pos c1]
        exact skip_end W he k b _ _ _ h S.lf (by show lo ≤ r.pos + 1; omega) (by show r.pos + 1 ≤ _; omega) (by show r.line + 1 ≤ r.pos + 1; omega) (by show r.pos + 1 ≤ r.pos + 1; omega)
      · rename_i c1
        rw [if_neg c1]
        split at h
        · rename_i c2
          rw [if_pos c2]
          exact skip_end W he k b _ _ _ h (S.step 1) (by show lo ≤ r.pos + 1; omega) (by show r.pos + 1 ≤ _; omega) (by show r.line ≤ r.pos + 1; omega) (by show r.ls ≤ r.pos + 1; omega)
        · rename_i c2
          rw [if_neg c2]
          split at h
          · rename_i c3
            have g := lineEnd_gt c3 c0
            have f3 : lineEndM s' r'.pos = lineEndM s r.pos + d := by rw [hp]; exact W.run_end he (P := fun b => b != 10) h1 (by omega)
            rw [if_pos c3, f3]
            exact skip_end W he k b _ _ _ h (S.at _) (by show lo ≤ lineEndM s r.pos; omega) g.2 (by show r.line ≤ lineEndM s r.pos; omega) (by show r.ls ≤ lineEndM s r.pos; omega)
          · rename_i c3
            rw [if_neg c3]
            split at h
            · rename_i c4
              rw [if_pos c4]
              split at h
              · cases h
              · rename_i z hz
                have g := commentM_moved hz h2 h3 h4
                obtain ⟨z', hz', S'⟩ := comment_win W _ (s'.size + 1 - r'.pos) _ _ _ r' hz S h1 (by have := g.le; omega) (by have := W.sz; have := W.d1; omega)
                unfold commentM
                rw [hz']
                exact skip_end W he k b _ _ _ h S' (by have := g.gt; omega) g.le g.line g.ls
            · rename_i c4
              rw [if_neg c4]
              cases h
              exact ⟨_, rfl, S⟩
    · rename_i c0
      rw [if_neg (by omega)]
      cases h
      exact ⟨_, rfl, S⟩

theorem read_after (W : Win s s' at_ at_ s.size 1) : ∀ (n n' : Nat) (r r' : Rd) (l : List Tok), readK s n r = .ok l → Inv 0 s r → Sh at_ 1 r r' → at_ ≤ r.pos → n ≤ n' → ∃ m, readK s' n' r' = .ok m ∧ m.map tkey = l.map (tkeyA at_)
  | 0, _, _, _, _, h, _, _, _, _ => by cases h
  | n + 1, n', r, r', l, h, hI, S, h1, hn => by
    obtain ⟨j, rfl⟩ : ∃ j, n' = j + 1 := ⟨n' - 1, by omega⟩
    have he : s.size = s.size ∧ s.size + 1 = s'.size := ⟨rfl, W.sz.symm⟩
    have hfu : s'.size + 1 - r'.pos = s.size + 1 - r.pos := by have := W.sz; have := S.pos; omega
    unfold readK at h ⊢
    split at h
    · cases h
    · rename_i z hz
      obtain ⟨z', hz', S'⟩ := skip_end W he _ _ _ _ _ hz S h1 hI.pos hI.line hI.ls
      rw [← hfu] at hz'
      unfold skipM
      rw [hz']
      split at h
      · rename_i c0
        cases h
        simp only
        rw [if_pos (by rw [S'.len]; exact c0)]
        exact ⟨_, rfl, S'.list⟩
      · cases h
    · rename_i z hz
      obtain ⟨z', hz', S'⟩ := skip_end W he _ _ _ _ _ hz S h1 hI.pos hI.line hI.ls
      rw [← hfu] at hz'
      have g1 := skipM_inv hz hI
      have g1' := g1.2.2.2.2 rfl
      have g2 := skip_fin _ _ _ hz
      unfold skipM
      rw [hz']
      split at h
      · cases h
      · rename_i z2 hz2
        have g3 := tokenM_inv s _ _ _ hz2 g1.1 g1'.1 g1'.2.1 g1'.2.2.1
        obtain ⟨z2', hz2', S2⟩ := tokenM_win W _ (s'.size + 1 - z'.pos) (by have := W.sz; have := S'.pos; omega) _ _ _ hz2 g1.1 g2 (by have := g1.2.1; omega) g3.1.pos (fun hh => ⟨fol2_last (by omega), fol2_last (by omega)⟩) S'
        simp only
        rw [hz2']
        exact read_after W n j _ _ _ h g3.1 S2 (by have := g1.2.1; have := g3.2; omega) (by omega)

theorem skip_noc : ∀ (k : Nat) (r z : Rd), skipK s k r = .ok (true, z) → z.pos ≤ e → NoC s e r.pos
  | 0, _, _, h, _ => by cases h
  | k + 1, r, z, h, hz => fun hr => by
    have key : ∀ b : UInt8, fol s r.pos ⟨#[47, b]⟩ = true → bt s r.pos = 47 ∧ r.pos < s.size := fun b hb => by
      rw [fol_two] at hb
      simp only [Bool.and_eq_true, decide_eq_true_eq, beq_iff_eq] at hb
      exact ⟨hb.2.1, by omega⟩
    have nl : bt s r.pos = 47 → fol s r.pos ⟨#[10]⟩ = false := fun hb => by rw [fol_one, hb]; simp
    have cl : bt s r.pos = 47 → clsM (bt s r.pos) ≠ 1 := fun hb => by rw [hb]; decide
    unfold skipK at h
    constructor
    · cases hf : fol s r.pos ⟨#[47, 47]⟩ with
      | false => rfl
      | true =>
        obtain ⟨hb, hlt⟩ := key _ hf
        have := lineEnd_two hf
        rw [if_pos hlt, nl hb, if_neg (by simp), if_neg (cl hb), if_pos hf] at h
        have := skip_mono _ _ _ _ h
        simp at this
        omega
    · cases hf : fol s r.pos ⟨#[47, 42]⟩ with
      | false => rfl
      | true =>
        obtain ⟨hb, hlt⟩ := key _ hf
        have hn : fol s r.pos ⟨#[47, 47]⟩ = false := by
          rw [fol_two] at hf ⊢
          simp only [Bool.and_eq_true, decide_eq_true_eq, beq_iff_eq] at hf
          rw [hf.2.2]
          simp
        rw [if_pos hlt, nl hb, if_neg (by simp), if_neg (cl hb), hn, if_neg (by simp), if_pos hf] at h
        split at h
        · cases h
        · rename_i y hy
          have := comment_two _ _ _ _ hy
          have := skip_mono _ _ _ _ h
          omega
theorem skip_cross (W0 : Win s s' at_ 0 at_ 0) (W1 : Win s s' at_ at_ s.size 1) (h32 : bt s' at_ = 32) : ∀ (k k' : Nat) (r q r' : Rd), skipK s k r = .ok (true, q) → Sh at_ 0 r r' → q.pos = at_ → k + 1 ≤ k' → ∃ q', skipK s' k' r' = .ok (true, q') ∧ Sh at_ 1 q q'
  | 0, _, _, _, _, h, _, _, _ => by cases h
  | k + 1, k', r, q, r', h, S, hq, hk => by
    have hw := W0.le
    have hsz := W0.sz
    have hB := skip_fin _ _ _ h
    have h3 := skip_mono _ _ _ _ h
    have hp := S.pos
    obtain ⟨j, rfl⟩ : ∃ j, k' = j + 1 := ⟨k' - 1, by omega⟩
    have hk' : k + 1 ≤ j := by omega
    by_cases hr : r.pos = at_
    · have hB' : Tb s r.pos := by rw [hr, ← hq]; exact hB
      rw [skip_tb hB'] at h
      cases h
      have hlt := hB.lt
      have e1 : fol s' r'.pos ⟨#[10]⟩ = false := by rw [fol_one, hp, hr, Nat.add_zero, h32]; simp
      have e2 : clsM (bt s' r'.pos) = 1 := by rw [hp, hr, Nat.add_zero, h32]; decide
      have S1 : Sh at_ 1 r { r' with pos := r'.pos + 1 } := ⟨by show r'.pos + 1 = r.pos + 1; omega, S.line, S.opn, S.list⟩
      rw [skipK, if_pos (by omega), e1, if_neg (by simp), if_pos e2]
      exact skip_win W1 (k + 1) j r r _ (skip_tb hB') S1 (by omega) hlt hk'
    · unfold skipK at h ⊢
      have hlt : r.pos < at_ := by omega
      have f1 : fol s' r'.pos ⟨#[10]⟩ = fol s r.pos ⟨#[10]⟩ := by rw [hp]; exact W0.fol1 (by omega) (by omega) (by decide) (fun he => by omega)
      have f0 : bt s' r'.pos = bt s r.pos := by rw [hp]; exact W0.by_ _ (by omega) hlt
      rw [f1, f0]
      split at h
      · rename_i c0
        rw [if_pos (by omega)]
        split at h
        · rename_i c1
          rw [if_pos c1]
          exact skip_cross W0 W1 h32 k j _ _ _ h S.lf hq hk'
        · rename_i c1
          rw [if_neg c1]
          split at h
          · rename_i c2
            rw [if_pos c2]
            exact skip_cross W0 W1 h32 k j _ _ _ h (S.step 1) hq hk'
          · rename_i c2
            rw [if_neg c2]
            split at h
            · rename_i c3
              have g1 := lineEnd_two c3
              have g2 := skip_mono _ _ _ _ h
              simp only at g2
              have g3 : lineEndM s r.pos < at_ := by
                rcases Nat.lt_or_ge (lineEndM s r.pos) at_ with g | g
                · exact g
                · exfalso
                  have e1 : lineEndM s r.pos = q.pos := by omega
                  have e2 : lineEndM s r.pos < s.size := by rw [e1]; exact hB.lt
                  have e3 : (bt s (lineEndM s r.pos) != 10) = false := runM_stop (f := fun i => bt s i != 10) e2
                  have e4 := hB.nl
                  rw [← e1, fol_one] at e4
                  simp at e3
                  rw [e3] at e4
                  simp at e4
                  omega
              have f2 : fol s' r'.pos ⟨#[47, 47]⟩ = fol s r.pos ⟨#[47, 47]⟩ := by rw [hp]; exact W0.fol2 (by omega) hlt (by decide) (fun he => by omega)
              have f3 : lineEndM s' r'.pos = lineEndM s r.pos + 0 := by rw [hp]; exact W0.run (P := fun b => b != 10) (by omega) (by omega) (.inl g3)
              rw [f2, if_pos c3, f3]
              exact skip_cross W0 W1 h32 k j _ _ _ h (S.at _) hq hk'
            · rename_i c3
              have f2 : fol s' r'.pos ⟨#[47, 47]⟩ = fol s r.pos ⟨#[47, 47]⟩ := by rw [hp]; exact W0.fol2 (by omega) hlt (by decide) (fun he => by simpa using c3)
              rw [f2, if_neg c3]
              split at h
              · rename_i c4
                split at h
                · cases h
                · rename_i z hz
                  have g1 := comment_two _ _ _ _ hz
                  have g2 := skip_mono _ _ _ _ h
                  have f4 : fol s' r'.pos ⟨#[47, 42]⟩ = fol s r.pos ⟨#[47, 42]⟩ := by rw [hp]; exact W0.fol2 (by omega) hlt (by decide) (fun he => by omega)
                  rw [f4, if_pos c4]
                  obtain ⟨z', hz', S'⟩ := comment_win W0 _ (s'.size + 1 - r'.pos) _ _ _ r' hz S (by omega) (by omega) (by omega)
                  unfold commentM
                  rw [hz']
                  exact skip_cross W0 W1 h32 k j _ _ _ h S' hq hk'
              · rename_i c4
                cases h
                omega
      · cases h

theorem read_list : ∀ (n : Nat) (r : Rd) (l : List Tok), readK s n r = .ok l → Inv 0 s r → ∃ x, l = r.list ++ x ∧ ∀ t ∈ x, r.pos ≤ t.pos
  | 0, _, _, h, _ => by cases h
  | n + 1, r, l, h, hI => by
    unfold readK at h
    split at h
    · cases h
    · rename_i z hz
      have g1 := skipM_inv hz hI
      split at h
      · cases h
        exact ⟨[], by rw [g1.2.2.2.1]; simp, fun t ht => by cases ht⟩
      · cases h
    · rename_i z hz
      have g1 := skipM_inv hz hI
      have g1' := g1.2.2.2.2 rfl
      have g2 := skip_fin _ _ _ hz
      split at h
      · cases h
      · rename_i z2 hz2
        have g3 := tokenM_inv s _ _ _ hz2 g1.1 g1'.1 g1'.2.1 g1'.2.2.1
        obtain ⟨x, hx⟩ := tokenM_add s _ _ _ hz2 g1.1 g2
        obtain ⟨y, hy, py⟩ := read_list n _ _ h g3.1
        refine ⟨x ++ y, by rw [hy, hx.list, g1.2.2.2.1, List.append_assoc], fun t ht => ?_⟩
        rw [List.mem_append] at ht
        have := g1.2.1
        rcases ht with ht | ht
        · have := (hx.all t ht).1; omega
        · have := py t ht; have := g3.2; omega

/-- The place of the k-th token parts the tokens in front of it from it and those behind it. -/
def Parts (at_ k : Nat) (l : List Tok) : Prop := ∀ i (h : i < l.length), l[i].pos < at_ ↔ i < k
theorem read_before {k : Nat} {l : List Tok} (hk : k < l.length) (hat : (l[k]'hk).pos = at_) (hins : ins (l.take k) ≤ 0) (W0 : Win s s' at_ 0 at_ 0) (W1 : Win s s' at_ at_ s.size 1) (h32 : bt s' at_ = 32) :
    ∀ (n n' : Nat) (r r' : Rd), readK s n r = .ok l → Inv 0 s r → Sh at_ 0 r r' → r.list.length ≤ k → ins r.list = 0 → (∀ t ∈ r.list, t.pos < at_) → n + 1 ≤ n' → ∃ m, readK s' n' r' = .ok m ∧ m.map tkey = l.map (tkeyA at_) ∧ Parts at_ k l
  | 0, _, _, _, h, _, _, _, _, _, _ => by cases h
  | n + 1, n', r, r', h, hI, S, hlen, hin, hold, hn => by
    obtain ⟨j, rfl⟩ : ∃ j, n' = j + 1 := ⟨n' - 1, by omega⟩
    have h' := h
    unfold readK at h
    split at h
    · cases h
    · rename_i z hz
      have g1 := skipM_inv hz hI
      split at h
      · cases h
        rw [g1.2.2.2.1] at hk
        omega
      · cases h
    · rename_i z hz
      have g1 := skipM_inv hz hI
      have g1' := g1.2.2.2.2 rfl
      have g2 := skip_fin _ _ _ hz
      split at h
      · cases h
      · rename_i z2 hz2
        have g3 := tokenM_inv s _ _ _ hz2 g1.1 g1'.1 g1'.2.1 g1'.2.2.1
        obtain ⟨x, hx⟩ := tokenM_add s _ _ _ hz2 g1.1 g2
        obtain ⟨y, hy, py⟩ := read_list n _ _ h g3.1
        have hl : l = r.list ++ (x ++ y) := by rw [hy, hx.list, g1.2.2.2.1, List.append_assoc]
        have hxl := hx.grp.ne
        have hfu : s.size + 1 - r.pos + 1 ≤ s'.size + 1 - r'.pos := by have := W0.sz; have := S.pos; have := hI.pos; omega
        by_cases hc : k = r.list.length
        · -- the blank lies in front of the group
          have hz0 : z.pos = at_ := by
            have e1 : l[k]? = x[0]? := by rw [hl, List.getElem?_append_right (by omega), List.getElem?_append_left (by omega), hc, Nat.sub_self]
            rw [List.getElem?_eq_getElem hk] at e1
            have := hx.first _ e1.symm
            omega
          obtain ⟨z', hz', S'⟩ := skip_cross W0 W1 h32 _ (s'.size + 1 - r'.pos) _ _ r' hz S hz0 hfu
          have hrd : readK s (n + 1) z = .ok l := by
            have e0 : skipM s z = .ok (true, z) := by
              unfold skipM
              rw [show s.size + 1 - z.pos = (s.size - z.pos) + 1 by have := g2.lt; omega]
              exact skip_tb g2
            unfold readK
            rw [e0]
            simp only
            rw [hz2]
            exact h
          obtain ⟨m, hm, hkey⟩ := read_after W1 (n + 1) (j + 1) z z' l hrd g1.1 S' (by omega) (by omega)
          refine ⟨m, ?_, hkey, fun i hi => ?_⟩
          · have e0' : skipM s' z' = .ok (true, z') := by
              obtain ⟨w', hw', Sw⟩ := skip_win W1 1 1 z z z' (skip_tb g2) S' (by omega) g2.lt (Nat.le_refl _)
              have hB' : Tb s' z'.pos := by
                rw [skipK] at hw'
                split at hw'
                · rename_i d0
                  split at hw'
                  · cases hw'
                  · rename_i d1
                    split at hw'
                    · cases hw'
                    · rename_i d2
                      split at hw'
                      · cases hw'
                      · rename_i d3
                        split at hw'
                        · split at hw' <;> cases hw'
                        · rename_i d4
                          exact ⟨d0, by simpa using d1, d2, by simpa using d3, by simpa using d4⟩
                · cases hw'
              unfold skipM
              rw [show s'.size + 1 - z'.pos = (s'.size - z'.pos) + 1 by have := hB'.lt; omega]
              exact skip_tb hB'
            unfold readK at hm ⊢
            rw [e0'] at hm
            have e1 : skipM s' r' = .ok (true, z') := hz'
            rw [e1]
            exact hm
          · have hi' : i < (r.list ++ (x ++ y)).length := by rw [← hl]; exact hi
            have e1 : l[i] = (r.list ++ (x ++ y))[i] := by simp only [hl]
            rw [e1]
            rcases Nat.lt_or_ge i r.list.length with hlt | hge
            · rw [List.getElem_append_left hlt]
              exact ⟨fun _ => by omega, fun _ => hold _ (List.getElem_mem _)⟩
            · rw [List.getElem_append_right hge]
              have hmem := List.getElem_mem (l := x ++ y) (n := i - r.list.length) (by simp at hi' ⊢; omega)
              have : at_ ≤ ((x ++ y)[i - r.list.length]'(by simp at hi' ⊢; omega)).pos := by
                rw [List.mem_append] at hmem
                rcases hmem with hm | hm
                · have := (hx.all _ hm).1; omega
                · have := py _ hm; have := g3.2; omega
              exact ⟨fun _ => by omega, fun _ => by omega⟩
        · -- the blank lies behind the group
          have hz2len : z2.list.length = r.list.length + x.length := by rw [hx.list, g1.2.2.2.1]; simp
          have hkx : r.list.length + x.length ≤ k := by
            rcases Nat.lt_or_ge k (r.list.length + x.length) with hlt | hge
            · exfalso
              have e1 : l.take k = r.list ++ x.take (k - r.list.length) := by
                rw [hl, List.take_append, List.take_of_length_le (by omega), List.take_append_of_le_length (by omega)]
              rw [e1, ins_append, hin] at hins
              have := hx.grp.pos (k - r.list.length) (by omega) (by omega)
              omega
            · exact hge
          have haty : ∃ i, ∃ h : i < y.length, (y[i]'h).pos = at_ := by
            have hi : k - r.list.length - x.length < y.length := by have := congrArg List.length hl; simp at this; omega
            refine ⟨_, hi, ?_⟩
            have e1 : l[k]? = y[k - r.list.length - x.length]? := by rw [hl, List.getElem?_append_right (by omega), List.getElem?_append_right (by omega)]
            rw [List.getElem?_eq_getElem hk, List.getElem?_eq_getElem hi] at e1
            have := Option.some.inj e1
            rw [← this, hat]
          have hle2 : z2.pos ≤ at_ := by
            obtain ⟨i, hi, hp⟩ := haty
            have := py _ (List.getElem_mem hi)
            omega
          have hNoC : NoC s at_ z2.pos := by
            cases n with
            | zero => cases h
            | succ n2 =>
              have h2 := h
              unfold readK at h2
              split at h2
              · cases h2
              · rename_i u hu
                have u1 := skipM_inv hu g3.1
                split at h2
                · cases h2
                  rw [u1.2.2.2.1] at hk
                  omega
                · cases h2
              · rename_i u hu
                have u1 := skipM_inv hu g3.1
                have u1' := u1.2.2.2.2 rfl
                have u2 := skip_fin _ _ _ hu
                split at h2
                · cases h2
                · rename_i u3 hu3
                  have u4 := tokenM_inv s _ _ _ hu3 u1.1 u1'.1 u1'.2.1 u1'.2.2.1
                  obtain ⟨x2, hx2⟩ := tokenM_add s _ _ _ hu3 u1.1 u2
                  obtain ⟨y2, hy2, py2⟩ := read_list _ _ _ h2 u4.1
                  have hyx : y = x2 ++ y2 := by
                    have e1 : z2.list ++ y = z2.list ++ (x2 ++ y2) := by rw [← hy, hy2, hx2.list, u1.2.2.2.1, List.append_assoc]
                    exact List.append_cancel_left e1
                  refine skip_noc _ _ _ hu ?_
                  obtain ⟨i, hi, hp⟩ := haty
                  have hm := List.getElem_mem hi
                  rw [hp.symm]
                  have hm' : y[i] ∈ x2 ++ y2 := by rw [← hyx]; exact hm
                  rw [List.mem_append] at hm'
                  rcases hm' with hm' | hm'
                  · exact (hx2.all _ hm').1
                  · have := py2 _ hm'; have := u4.2; omega
          obtain ⟨z', hz', S'⟩ := skip_win W0 _ (s'.size + 1 - r'.pos) _ _ r' hz S (Nat.zero_le _) (by have := g3.2; omega) (by omega)
          obtain ⟨z2', hz2', S2⟩ := tokenM_win W0 _ (s'.size + 1 - z'.pos) (by have := W0.sz; have := S'.pos; omega) _ _ _ hz2 g1.1 g2 (Nat.zero_le _) hle2 hNoC S'
          obtain ⟨m, hm, hkey, hparts⟩ := read_before hk hat hins W0 W1 h32 n j z2 z2' h g3.1 S2 (by omega) (by rw [hx.list, g1.2.2.2.1, ins_append, hin, hx.grp.sum]; rfl)
            (fun t ht => by
              rw [hx.list, g1.2.2.2.1, List.mem_append] at ht
              rcases ht with ht | ht
              · exact hold t ht
              · have := (hx.all t ht).2; omega) (by omega)
          refine ⟨m, ?_, hkey, hparts⟩
          unfold readK
          have e1 : skipM s' r' = .ok (true, z') := hz'
          rw [e1]
          simp only
          rw [hz2']
          exact hm
end

/-- The text with a blank in front of byte n. -/
def blankAt (s : ByteArray) (n : Nat) : ByteArray := s.extract 0 n ++ ⟨#[32]⟩ ++ s.extract n s.size
theorem blank_list (s : ByteArray) (n : Nat) : (blankAt s n).data.toList = s.data.toList.take n ++ 32 :: s.data.toList.drop n := by
  unfold blankAt
  rw [ByteArray.data_append, ByteArray.data_append, Array.toList_append, Array.toList_append, Go.Lib.extract_data, Go.Lib.extract_data]
  simp
  exact List.take_of_length_le (by simp)
theorem blank_size (s : ByteArray) (n : Nat) (h : n ≤ s.size) : (blankAt s n).size = s.size + 1 := by
  have h1 : (blankAt s n).data.toList.length = (blankAt s n).size := by simp
  have h2 : s.data.toList.length = s.size := by simp
  rw [← h1, blank_list]
  simp [h2]
  omega
theorem blank_lo (s : ByteArray) (n i : Nat) (h : n ≤ s.size) (hi : i < n) : bt (blankAt s n) i = bt s i := by
  have h2 : s.data.toList.length = s.size := by simp
  unfold bt
  rw [blank_list, List.getD, List.getD, List.getElem?_append_left (by simp [h2]; omega), List.getElem?_take_of_lt hi]
theorem blank_mid (s : ByteArray) (n : Nat) (h : n ≤ s.size) : bt (blankAt s n) n = 32 := by
  have h2 : s.data.toList.length = s.size := by simp
  unfold bt
  rw [blank_list, List.getD, List.getElem?_append_right (by simp [h2]; omega)]
  have : n - (s.data.toList.take n).length = 0 := by simp [h2]; omega
  rw [this]; rfl
theorem blank_hi (s : ByteArray) (n i : Nat) (h : n ≤ s.size) (hi : n ≤ i) : bt (blankAt s n) (i + 1) = bt s i := by
  have h2 : s.data.toList.length = s.size := by simp
  unfold bt
  rw [blank_list, List.getD, List.getD, List.getElem?_append_right (by simp [h2]; omega)]
  have : i + 1 - (s.data.toList.take n).length = (i - n) + 1 := by simp [h2]; omega
  rw [this, List.getElem?_cons_succ, List.getElem?_drop, show n + (i - n) = i by omega]

/-- A BLANK IN FRONT OF A TOKEN THAT IS NOT INSIDE OF AN INTERPOLATED STRING CHANGES ONLY PLACES. -/
theorem spaces_model {s : ByteArray} {l : List Tok} {k : Nat} (h : rawM s = .ok l) (hk : k < l.length) (hins : ins (l.take k) ≤ 0) (hsz : s.size ≤ 65535) :
    ∃ m, rawM (blankAt s (l[k]'hk).pos) = .ok m ∧ m.map tkey = l.map (tkeyA (l[k]'hk).pos) ∧ Parts (l[k]'hk).pos k l := by
  have hpos : (l[k]'hk).pos ≤ s.size := ((rawM_small h).1 _ (List.getElem_mem hk)).1
  obtain ⟨n, hat⟩ : ∃ n, (l[k]'hk).pos = n := ⟨_, rfl⟩
  rw [hat] at hpos ⊢
  unfold rawM at h ⊢
  have hz := blank_size s n hpos
  have W0 : Win s (blankAt s n) n 0 n 0 := ⟨hpos, by omega, fun i _ hi => by rw [Nat.add_zero]; exact blank_lo s n i hpos hi, .inr ⟨by omega, blank_mid s n hpos⟩, hz, by omega, fun p _ hp => by rw [if_pos hp]; rfl⟩
  have W1 : Win s (blankAt s n) n n s.size 1 := ⟨Nat.le_refl _, by omega, fun i hi _ => blank_hi s n i hpos hi, .inl ⟨rfl, by omega⟩, hz, Nat.le_refl _, fun p hp _ => by rw [if_neg (by omega)]⟩
  split at h
  · cases h
  · rename_i hc
    have hbad : ∀ i, i < s.size → badByte (bt s i) = false := by
      unfold checkM at hc
      split at hc
      · cases hc
      · split at hc
        · cases hc
        · rename_i hr
          intro i hi
          have := runM_all (s := s) (f := fun i => !badByte (bt s i)) (p := 0) (i := i) (Nat.zero_le _) (by omega)
          simpa using this
    have hc' : checkM (blankAt s n) = .ok () := by
      unfold checkM
      have hrun : runM (blankAt s n) (fun i => !badByte (bt (blankAt s n) i)) 0 = (blankAt s n).size := by
        refine runM_uniq (Nat.le_refl _) (fun hh => absurd hh (by omega)) _ _ (by omega : (blankAt s n).size = 0 + (blankAt s n).size) fun i _ hi => ?_
        have : badByte (bt (blankAt s n) i) = false := by
          rcases Nat.lt_trichotomy i n with g | g | g
          · rw [blank_lo s n i hpos g]; exact hbad i (by omega)
          · rw [g, blank_mid s n hpos]; decide
          · obtain ⟨j, rfl⟩ : ∃ j, i = j + 1 := ⟨i - 1, by omega⟩
            rw [blank_hi s n j hpos (by omega)]; exact hbad j (by omega)
        simp [this]
      rw [if_neg (by omega), hrun, if_neg (by omega)]
    rw [hc']
    simp only
    exact read_before hk hat hins W0 W1 (blank_mid s n hpos) _ _ _ _ h ⟨Nat.zero_le _, Nat.le_refl _, Nat.le_refl _, Nat.zero_le _, Nat.zero_le _⟩ ⟨rfl, rfl, rfl, rfl⟩ (Nat.zero_le _) rfl (fun t ht => by cases ht) (by omega)
end Go.Proofs.YtcdidmohgcegmaaDoor
