/- Plain facts of the reader's model: what it reads inside of a window, it reads in the other text too (tokens without interpolated strings). No condition on memory. -/
import Derived.Test.YtcdidmohgcegmaaDoorSpa
namespace Go.Proofs.YtcdidmohgcegmaaDoor

/-- What is asked of a token: all but its column; and its place, moved where it lies at or behind a byte. -/
def tkey (t : Tok) : Nat × ByteArray × Nat × Nat := (t.kind, t.text, t.pos, t.line)
def tkeyA (at_ : Nat) (t : Tok) : Nat × ByteArray × Nat × Nat := (t.kind, t.text, if t.pos < at_ then t.pos else t.pos + 1, t.line)
/-- The reader of s and the reader of s' stand at the same place, and have read the same. -/
structure Sh (at_ d : Nat) (r r' : Rd) : Prop where
  pos : r'.pos = r.pos + d
  line : r'.line = r.line
  opn : r'.opn.map Prod.fst = r.opn.map Prod.fst
  list : r'.list.map tkey = r.list.map (tkeyA at_)

section
variable {s s' : ByteArray} {at_ lo e d : Nat} {r r' q : Rd}
theorem Sh.len (S : Sh at_ d r r') : r'.opn.length = r.opn.length := by simpa using congrArg List.length S.opn
theorem Sh.at (S : Sh at_ d r r') (n : Nat) : Sh at_ d { r with pos := n } { r' with pos := n + d } := ⟨rfl, S.line, S.opn, S.list⟩
theorem Sh.start (S : Sh at_ d r r') (n m : Nat) : Sh at_ d { r with start := n } { r' with start := m } := ⟨S.pos, S.line, S.opn, S.list⟩
theorem Sh.lf (S : Sh at_ d r r') : Sh at_ d (lfM r) (lfM r') := ⟨by simp [lfM, S.pos]; omega, by simp [lfM, S.line], S.opn, S.list⟩
theorem Sh.step (S : Sh at_ d r r') (n : Nat) : Sh at_ d { r with pos := r.pos + n } { r' with pos := r'.pos + n } := ⟨by show r'.pos + n = r.pos + n + d; rw [S.pos]; omega, S.line, S.opn, S.list⟩
theorem putM_win (W : Win s s' at_ lo e d) (S : Sh at_ d r r') (hs : r'.start = r.start + d) (h1 : lo ≤ r.start) (h2 : r.start < e) (kind : Nat) (text : ByteArray) (en : Nat) :
    Sh at_ d (putM r kind text en) (putM r' kind text (en + d)) := by
  refine ⟨rfl, S.line, S.opn, ?_⟩
  simp only [putM, List.map_append, List.map_cons, List.map_nil, S.list, tkey, tkeyA, S.line, W.shift r.start h1 h2, hs]
theorem putNamed_win (W : Win s s' at_ lo e d) {kind en : Nat} (h : putNamedM s r kind en = .ok q) (S : Sh at_ d r r') (hs : r'.start = r.start + d) (h1 : lo ≤ r.start) (h2 : r.start < e) (h3 : en ≤ e) :
    ∃ q', putNamedM s' r' kind (en + d) = .ok q' ∧ Sh at_ d q q' := by
  unfold putNamedM at h ⊢
  rw [hs, W.ext h1 h3]
  split at h
  · cases h
  · rename_i hn
    cases h
    exact ⟨_, if_neg hn, putM_win W S hs h1 h2 _ _ _⟩
theorem lastD_map {α β : Type} (f : α → β) (a : α) : ∀ l : List α, f (l.getLastD a) = (l.map f).getLastD (f a)
  | [] => rfl
  | [_] => rfl
  | _ :: y :: l => by
    have := lastD_map f a (y :: l)
    simpa [List.getLastD] using this
theorem lastOp_win (S : Sh at_ d r r') : (lastOp r').1 = (lastOp r).1 := by
  unfold lastOp
  rw [lastD_map Prod.fst, lastD_map Prod.fst, S.opn]
theorem dropLast_map {α β : Type} (f : α → β) : ∀ l : List α, l.dropLast.map f = (l.map f).dropLast
  | [] => rfl
  | [_] => rfl
  | x :: y :: l => by simp [List.dropLast, dropLast_map f (y :: l)]
theorem putMark_win (W : Win s s' at_ lo e d) {m : ByteArray} (h : putMarkM r m = .ok q) (S : Sh at_ d r r') (hs : r'.start = r.start + d) (h1 : lo ≤ r.start) (h2 : r.start < e) :
    ∃ q', putMarkM r' m = .ok q' ∧ Sh at_ d q q' := by
  have hl := S.len
  have hp : r'.start + m.size = r.start + m.size + d := by omega
  unfold putMarkM at h ⊢
  split at h
  · rename_i c1
    rw [if_pos c1]
    split at h
    · rename_i c2
      rw [if_pos c2]
      split at h
      · cases h
      · rename_i c3
        rw [if_neg (by omega)]
        split at h
        · rename_i c4
          cases h
          rw [lastOp_win S, if_pos c4, hp]
          refine ⟨_, rfl, putM_win (r := { r with opn := r.opn.dropLast }) (r' := { r' with opn := r'.opn.dropLast }) W ⟨S.pos, S.line, ?_, S.list⟩ hs h1 h2 _ _ _⟩
          show r'.opn.dropLast.map Prod.fst = r.opn.dropLast.map Prod.fst
          rw [dropLast_map, dropLast_map, S.opn]
        · cases h
    · rename_i c2
      cases h
      rw [if_neg c2, hp]
      exact ⟨_, rfl, putM_win W S hs h1 h2 _ _ _⟩
  · rename_i c1
    rw [if_neg c1]
    split at h
    · cases h
    · rename_i c2
      cases h
      rw [if_neg (by omega), hp]
      refine ⟨_, rfl, putM_win (r := { r with opn := r.opn ++ [(m, r.start)] }) (r' := { r' with opn := r'.opn ++ [(m, r'.start)] }) W ⟨S.pos, S.line, ?_, S.list⟩ hs h1 h2 _ _ _⟩
      simp [S.opn]

theorem inWord_blank : inWordM 32 = false := by decide
theorem dig_blank : (clsM 32 == 3) = false := by decide
theorem cls_blank : clsM 32 = 1 := by decide
theorem Win.wordEnd (W : Win s s' at_ lo e d) {p : Nat} (h1 : lo ≤ p) (h2 : p ≤ e) (h : wordEndM s p ≤ e) : wordEndM s' (p + d) = wordEndM s p + d := W.run (P := inWordM) h1 h2 (.inr ⟨h, inWord_blank⟩)
theorem Win.digEnd (W : Win s s' at_ lo e d) {p : Nat} (h1 : lo ≤ p) (h2 : p ≤ e) (h : digEndM s p ≤ e) : digEndM s' (p + d) = digEndM s p + d := W.run (P := fun b => clsM b == 3) h1 h2 (.inr ⟨h, dig_blank⟩)
theorem Win.long (W : Win s s' at_ lo e d) {n : Nat} (h1 : lo ≤ n) (h2 : n ≤ e) (h : n = e → (decide (n < s.size) && decide ((bt s n).toNat = 76)) = false) :
    (decide (n + d < s'.size) && decide ((bt s' (n + d)).toNat = 76)) = (decide (n < s.size) && decide ((bt s n).toNat = 76)) := by
  have hw := W.le
  have hw' := W.le'
  by_cases he : n = e
  · rw [h he]
    subst he
    rcases W.tail with ⟨_, ht⟩ | ⟨_, ht⟩
    · simp [ht]
    · rw [ht]; simp
  · rw [W.by_ n h1 (by omega)]
    have e1 : n < s.size := by omega
    have e2 : n + d < s'.size := by omega
    simp [e1, e2]
theorem number_win (W : Win s s' at_ lo e d) (h : numberM s r = .ok q) (hst : r.start = r.pos) (S : Sh at_ d r r') (hs : r'.start = r.start + d) (h1 : lo ≤ r.pos) (h2 : r.pos < e) (h3 : q.pos ≤ e) :
    ∃ q', numberM s' r' = .ok q' ∧ Sh at_ d q q' := by
  have hw := W.le
  have hle := runM_le s (fun i => clsM (bt s i) == 3) r.pos (by omega)
  change r.pos ≤ digEndM s r.pos ∧ digEndM s r.pos ≤ s.size at hle
  cases hl : (decide (digEndM s r.pos < s.size) && decide ((bt s (digEndM s r.pos)).toNat = 76)) with
  | false =>
    rw [numberM_short rfl hl] at h
    split at h
    · cases h
    · rename_i c1
      split at h
      · cases h
      · rename_i c2
        cases h
        have hn : digEndM s r.pos ≤ e := h3
        have hd := W.digEnd h1 (by omega) hn
        rw [← S.pos] at hd
        have hlong := W.long (n := digEndM s r.pos) (by omega) hn (fun _ => hl)
        rw [hl] at hlong
        have hwe : wordEndM s (digEndM s r.pos) ≤ e := by simp at c1; omega
        have hwe' := W.wordEnd (p := digEndM s r.pos) (by omega) hn hwe
        rw [numberM_short hd hlong, S.pos, W.ext h1 hn, W.by_ r.pos h1 h2, hwe', if_neg, if_neg c2]
        · exact ⟨_, rfl, putM_win W S hs (by omega) (by omega) _ _ _⟩
        · intro c; apply c1; rw [← c]; congr 1; simp
  | true =>
    rw [numberM_long rfl hl] at h
    split at h
    · cases h
    · rename_i c1
      split at h
      · cases h
      · rename_i c2
        cases h
        have hn : digEndM s r.pos + 1 ≤ e := h3
        have hd := W.digEnd h1 (by omega) (by omega)
        rw [← S.pos] at hd
        have hlong := W.long (n := digEndM s r.pos) (by omega) (by omega) (fun _ => by omega)
        rw [hl] at hlong
        have hwe : wordEndM s (digEndM s r.pos + 1) ≤ e := by simp at c1; omega
        have hwe' := W.wordEnd (p := digEndM s r.pos + 1) (by omega) hn hwe
        rw [show digEndM s r.pos + 1 + d = digEndM s r.pos + d + 1 by omega] at hwe'
        rw [numberM_long hd hlong, S.pos, W.ext h1 (by omega), W.by_ r.pos h1 h2, hwe', if_neg, if_neg c2]
        · rw [show digEndM s r.pos + d + 1 = digEndM s r.pos + 1 + d by omega]
          exact ⟨_, rfl, putM_win W S hs (by omega) (by omega) _ _ _⟩
        · intro c; apply c1; rw [← c]; congr 1; simp; omega

/-- At the byte in front of the window's end begins no comment. -/
def NoC (s : ByteArray) (e n : Nat) : Prop := n + 1 = e → fol s n ⟨#[47, 47]⟩ = false ∧ fol s n ⟨#[47, 42]⟩ = false
theorem bcM_fol (s : ByteArray) (i : Nat) : bcM (s.extract i s.size) = (fol s i ⟨#[47, 47]⟩ || fol s i ⟨#[47, 42]⟩) := rfl
theorem opEnd_win (W : Win s s' at_ lo e d) {p : Nat} (h1 : lo ≤ p) (h2 : p ≤ e) (h3 : opEndM s p ≤ e) (hN : NoC s e (opEndM s p)) : opEndM s' (p + d) = opEndM s p + d := by
  have hw := W.le
  have hw' := W.le'
  unfold opEndM at *
  have h0 := runM_le s (fun i => clsM (bt s i) == 4 && !bcM (s.extract i s.size)) p (by omega)
  have ha := fun (i : Nat) (h1 : p ≤ i) (h2 : i < runM s (fun i => clsM (bt s i) == 4 && !bcM (s.extract i s.size)) p) => runM_all h1 h2
  have hst := fun (h : runM s (fun i => clsM (bt s i) == 4 && !bcM (s.extract i s.size)) p < s.size) => runM_stop h
  generalize runM s (fun i => clsM (bt s i) == 4 && !bcM (s.extract i s.size)) p = n at h3 hN h0 ha hst ⊢
  refine runM_uniq (by omega) (fun hlt => ?_) (n - p) _ (by omega) fun i g1 g2 => ?_
  · rcases Nat.lt_or_ge n e with g | g
    · have g3 := hst (by omega)
      simp only [Bool.and_eq_false_iff, Bool.not_eq_false', bcM_fol] at g3
      rw [W.by_ n (by omega) g, bcM_fol]
      rcases g3 with g3 | g3
      · rw [g3]; rfl
      · have : n + 1 ≠ e := fun he => by have := hN he; rw [this.1, this.2] at g3; cases g3
        rw [W.fol2 (by omega) g (by decide) (fun he => absurd he this), W.fol2 (by omega) g (by decide) (fun he => absurd he this), g3]
        simp
    · have : n = e := by omega
      subst this
      rcases W.tail with ⟨_, ht⟩ | ⟨_, ht⟩
      · omega
      · rw [ht, cls_blank]; rfl
  · obtain ⟨j, rfl⟩ : ∃ j, i = j + d := ⟨i - d, by omega⟩
    have g3 := ha j (by omega) (by omega)
    simp only [Bool.and_eq_true, Bool.not_eq_true', bcM_fol, Bool.or_eq_false_iff] at g3 ⊢
    rw [W.by_ j (by omega) (by omega), W.fol2 (by omega) (by omega) (by decide) (fun _ => g3.2.1), W.fol2 (by omega) (by omega) (by decide) (fun _ => g3.2.2)]
    exact g3
theorem putMark_pos {m : ByteArray} (h : putMarkM r m = .ok q) : q.pos = r.start + m.size := by
  unfold putMarkM at h
  split at h
  · split at h
    · split at h
      · cases h
      · split at h
        · cases h; rfl
        · cases h
    · cases h; rfl
  · split at h
    · cases h
    · cases h; rfl
theorem putNamed_pos {kind en : Nat} (h : putNamedM s r kind en = .ok q) : q.pos = en := by
  unfold putNamedM at h
  split at h
  · cases h
  · cases h; rfl
theorem operator_win (W : Win s s' at_ lo e d) (h : operatorM s r = .ok q) (hst : r.start = r.pos) (S : Sh at_ d r r') (hs : r'.start = r.start + d) (h1 : lo ≤ r.pos) (h2 : r.pos < e) (h3 : q.pos ≤ e) (hN : NoC s e q.pos) :
    ∃ q', operatorM s' r' = .ok q' ∧ Sh at_ d q q' := by
  have hw := W.le
  have hle := runM_le s (fun i => clsM (bt s i) == 4 && !bcM (s.extract i s.size)) r.pos (by omega)
  change r.pos ≤ opEndM s r.pos ∧ opEndM s r.pos ≤ s.size at hle
  unfold operatorM at h ⊢
  simp only at h ⊢
  have hq : q.pos = opEndM s r.pos := by
    split at h
    · have := putMark_pos h
      rw [ext_size hle.1 hle.2] at this; omega
    · exact putNamed_pos h
  rw [hq] at h3 hN
  rw [S.pos, opEnd_win W h1 (by omega) h3 hN, W.ext h1 h3]
  split at h
  · rename_i c
    rw [if_pos c]
    exact putMark_win W h S hs (by omega) (by omega)
  · rename_i c
    rw [if_neg c]
    exact putNamed_win W h S hs (by omega) (by omega) h3

/-- unescape, over the length and the first three bytes. -/
def unescB (n : Nat) (b0 b1 b2 : UInt8) : UInt8 × Nat :=
  if n = 0 then (0, 0)
  else if b0.toNat = 110 then (10, 1)
  else if b0.toNat = 116 then (9, 1)
  else if b0.toNat = 92 ∨ b0.toNat = 39 ∨ b0.toNat = 34 ∨ b0.toNat = 36 then (b0, 1)
  else if b0.toNat = 120 then
    if n < 3 then (0, 0)
    else if 0 ≤ hexM b1 ∧ 0 ≤ hexM b2 then (UInt8.ofNat (hexM b1 * 16 + hexM b2).toNat, 3)
    else (0, 0)
  else (0, 0)
theorem unescM_eq (t : ByteArray) : unescM t = unescB t.size (bt t 0) (bt t 1) (bt t 2) := rfl
theorem unescB_win {n n' : Nat} {b0 b1 b2 c0 c1 c2 : UInt8} (hk : (unescB n b0 b1 b2).2 ≠ 0) (h0 : c0 = b0) (hn : (unescB n b0 b1 b2).2 ≤ n') (h12 : (unescB n b0 b1 b2).2 = 3 → c1 = b1 ∧ c2 = b2) :
    unescB n' c0 c1 c2 = unescB n b0 b1 b2 := by
  subst h0
  have hn0 : n' ≠ 0 := by omega
  unfold unescB at *
  by_cases a0 : n = 0
  · simp [a0] at hk
  by_cases a1 : c0.toNat = 110
  · simp [a0, a1, hn0]
  by_cases a2 : c0.toNat = 116
  · simp [a0, a2, hn0]
  by_cases a3 : c0.toNat = 92 ∨ c0.toNat = 39 ∨ c0.toNat = 34 ∨ c0.toNat = 36
  · simp [a0, a1, a2, a3, hn0]
  by_cases a4 : c0.toNat = 120
  · by_cases a5 : n < 3
    · simp [a0, a4, a5] at hk
    by_cases a6 : 0 ≤ hexM b1 ∧ 0 ≤ hexM b2
    · simp [a0, a4, a5, a6] at hn h12
      obtain ⟨rfl, rfl⟩ := h12
      have a7 : ¬n' < 3 := by omega
      simp [a0, a4, a5, a6, a7, hn0]
    · simp [a0, a4, a5, a6] at hk
  · simp [a0, a1, a2, a3, a4] at hk
theorem unescB_le (n : Nat) (b0 b1 b2 : UInt8) : (unescB n b0 b1 b2).2 ≤ n ∧ (unescB n b0 b1 b2).2 ≤ 3 := by
  unfold unescB
  (repeat' split) <;> simp <;> omega
theorem character_win (W : Win s s' at_ lo e d) {p p' : Nat} {b : UInt8} (h : characterM s p = some (b, p')) (h1 : lo ≤ p) (h2 : p' ≤ e) (h3 : p < e) : characterM s' (p + d) = some (b, p' + d) := by
  have hw := W.le
  have hw' := W.le'
  unfold characterM at h ⊢
  rw [W.by_ p h1 h3]
  split at h
  · rename_i c
    rw [if_pos c]
    split at h
    · cases h
    · rename_i c2
      simp only [Option.some.injEq, Prod.mk.injEq] at h
      obtain ⟨hb, hp'⟩ := h
      rw [unescM_eq] at c2 hb hp'
      have hle := unescB_le (s.extract (p + 1) s.size).size (bt (s.extract (p + 1) s.size) 0) (bt (s.extract (p + 1) s.size) 1) (bt (s.extract (p + 1) s.size) 2)
      have e1 : (s.extract (p + 1) s.size).size = s.size - (p + 1) := by rw [ByteArray.size_extract]; omega
      have e2 : (s'.extract (p + d + 1) s'.size).size = s'.size - (p + d + 1) := by rw [ByteArray.size_extract]; omega
      have hb' : ∀ j, p + 1 + j < e → bt (s'.extract (p + d + 1) s'.size) j = bt (s.extract (p + 1) s.size) j := fun j hj => by
        rw [bt_extract _ _ _ _ (Nat.le_refl _) (by omega), bt_extract _ _ _ _ (Nat.le_refl _) (by omega), show p + d + 1 + j = (p + 1 + j) + d by omega]
        exact W.by_ _ (by omega) hj
      have key : unescM (s'.extract (p + d + 1) s'.size) = unescB (s.extract (p + 1) s.size).size (bt (s.extract (p + 1) s.size) 0) (bt (s.extract (p + 1) s.size) 1) (bt (s.extract (p + 1) s.size) 2) := by
        rw [unescM_eq]
        exact unescB_win c2 (hb' 0 (by omega)) (by omega) (fun h3 => ⟨hb' 1 (by omega), hb' 2 (by omega)⟩)
      rw [key, if_neg c2, hb]
      congr 2
      omega
  · rename_i c
    rw [if_neg c]
    cases h
    congr 2
    omega
theorem character_gt {p p' : Nat} {b : UInt8} (h : characterM s p = some (b, p')) : p < p' := by
  unfold characterM at h
  split at h
  · split at h
    · cases h
    · cases h; omega
  · cases h; omega
theorem chars_win (W : Win s s' at_ lo e d) {E O : Int} {st st' : Nat} : ∀ (k k' p : Nat) (acc l : List UInt8) (n : Nat), charsK s E O st k p acc = .ok (l, n) → n < e → lo ≤ p → k ≤ k' → charsK s' E O st' k' (p + d) acc = .ok (l, n + d)
  | 0, _, _, _, _, _, h, _, _, _ => by cases h
  | k + 1, k', p, acc, l, n, h, hn, hp, hk => by
    have hw := W.le
    have hw' := W.le'
    obtain ⟨j, rfl⟩ : ∃ j, k' = j + 1 := ⟨k' - 1, by omega⟩
    have hpn := charsK_le h
    unfold charsK at h ⊢
    rw [W.by_ p hp (by omega)]
    split at h
    · rename_i c1
      rw [if_pos ⟨by omega, c1.2⟩]
      split at h
      · rename_i c2
        rw [if_pos c2]
        cases h
        rfl
      · rename_i c2
        rw [if_neg c2]
        split at h
        · cases h
        · rename_i b p' hc
          have h1 := charsK_le h
          have h2 := character_gt hc
          rw [character_win W hc hp (by omega) (by omega)]
          exact chars_win W k j p' _ _ _ h hn (by omega) (by omega)
    · cases h
theorem charsM_win (W : Win s s' at_ lo e d) {E O : Int} {st st' p n : Nat} {l : List UInt8} (h : charsM s E O st p = .ok (l, n)) (hn : n < e) (hp : lo ≤ p) : charsM s' E O st' (p + d) = .ok (l, n + d) :=
  chars_win W _ _ _ _ _ _ h hn hp (by have := W.sz; have := W.d1; omega)
theorem char_win (W : Win s s' at_ lo e d) (h : charM s r = .ok q) (hst : r.start = r.pos) (S : Sh at_ d r r') (hs : r'.start = r.start + d) (h1 : lo ≤ r.pos) (h2 : r.pos < e) (h3 : q.pos ≤ e) :
    ∃ q', charM s' r' = .ok q' ∧ Sh at_ d q q' := by
  unfold charM at h ⊢
  rw [S.pos]
  split at h
  · rename_i c
    have hz : (⟨#[39, 123]⟩ : ByteArray).size = 2 := rfl
    have hq := putMark_pos h
    rw [W.fol2 h1 h2 (by decide) (fun he => by omega), if_pos c]
    exact putMark_win W h S hs (by omega) (by omega)
  · rename_i c
    split at h
    · cases h
    · rename_i l p hc
      have hle := charsM_le hc
      split at h
      · rename_i c2
        cases h
        have h4 : p + 1 ≤ e := h3
        rw [W.fol2 h1 h2 (by decide) (fun he => by omega), if_neg c, show r.pos + d + 1 = r.pos + 1 + d by omega, charsM_win W (st' := r'.start) hc (by omega) (by omega)]
        refine ⟨_, if_pos c2, ?_⟩
        rw [show p + d + 1 = p + 1 + d by omega]
        exact putM_win W S hs (by omega) (by omega) _ _ _
      · cases h
theorem plain_win (W : Win s s' at_ lo e d) (h : plainM s r = .ok q) (hst : r.start = r.pos) (S : Sh at_ d r r') (hs : r'.start = r.start + d) (h1 : lo ≤ r.pos) (h2 : r.pos < e) (h3 : q.pos ≤ e) :
    ∃ q', plainM s' r' = .ok q' ∧ Sh at_ d q q' := by
  unfold plainM at h ⊢
  rw [S.pos]
  split at h
  · cases h
  · rename_i l p hc
    have hle := charsM_le hc
    cases h
    have h4 : p + 1 ≤ e := h3
    rw [show r.pos + d + 1 = r.pos + 1 + d by omega, charsM_win W (st' := r'.start) hc (by omega) (by omega)]
    refine ⟨_, rfl, ?_⟩
    rw [show p + d + 1 = p + 1 + d by omega]
    exact putM_win W S hs (by omega) (by omega) _ _ _
theorem splice_win (W : Win s s' at_ lo e d) (h : spliceM s r = .ok q) (hst : r.start = r.pos) (S : Sh at_ d r r') (hs : r'.start = r.start + d) (h1 : lo ≤ r.pos) (h2 : r.pos < e) (h3 : q.pos ≤ e) :
    ∃ q', spliceM s' r' = .ok q' ∧ Sh at_ d q q' := by
  unfold spliceM at h ⊢
  rw [S.pos]
  split at h
  · rename_i c
    have hz : (⟨#[36, 123]⟩ : ByteArray).size = 2 := rfl
    have hq := putMark_pos h
    rw [W.fol2 h1 h2 (by decide) (fun he => by omega), if_pos c]
    exact putMark_win W h S hs (by omega) (by omega)
  · cases h
theorem part_win (W : Win s s' at_ lo e d) {b : Bool} (h : partM s r = .ok (b, q)) (S : Sh at_ d r r') (h1 : lo ≤ r.pos) (h3 : q.pos < e) :
    ∃ q', partM s' r' = .ok (b, q') ∧ Sh at_ d q q' := by
  unfold partM at h ⊢
  split at h
  · cases h
  · rename_i l p hc
    have hle := charsM_le hc
    cases h
    have h4 : p < e := h3
    rw [S.pos, charsM_win W (st' := r.pos + d) hc h4 h1]
    refine ⟨putM { r' with start := r.pos + d } 9 (bytesOf l) (p + d), ?_, putM_win (r := { r with start := r.pos }) (r' := { r' with start := r.pos + d }) W (S.start _ _) rfl h1 (by show r.pos < e; omega) _ _ _⟩
    simp only
    rw [W.by_ p (by omega) h4]
    rfl

theorem comment_two : ∀ (k : Nat) (r : Rd) (c : Nat) (q : Rd), commentK s k r c = some q → r.pos + 2 ≤ q.pos
  | 0, _, _, _, h => by cases h
  | k + 1, r, c, q, h => by
    unfold commentK at h
    split at h
    · split at h
      · have := comment_two k _ _ _ h
        simp at this; omega
      · split at h
        · split at h
          · cases h; exact Nat.le_refl _
          · have := comment_two k _ _ _ h
            simp at this; omega
        · split at h
          · have := comment_two k _ _ _ h
            simp [lfM] at this; omega
          · have := comment_two k _ _ _ h
            simp at this; omega
    · cases h
theorem comment_win (W : Win s s' at_ lo e d) : ∀ (k k' : Nat) (r : Rd) (c : Nat) (q r' : Rd), commentK s k r c = some q → Sh at_ d r r' → lo ≤ r.pos → q.pos ≤ e → k ≤ k' → ∃ q', commentK s' k' r' c = some q' ∧ Sh at_ d q q'
  | 0, _, _, _, _, _, h, _, _, _, _ => by cases h
  | k + 1, k', r, c, q, r', h, S, h1, h2, hk => by
    have hw := W.le
    have hw' := W.le'
    have h3 := comment_two _ _ _ _ h
    obtain ⟨j, rfl⟩ : ∃ j, k' = j + 1 := ⟨k' - 1, by omega⟩
    have hk' : k ≤ j := by omega
    unfold commentK at h ⊢
    rw [S.pos, W.fol2 h1 (by omega) (by decide) (fun he => by omega), W.fol2 h1 (by omega) (by decide) (fun he => by omega), W.fol1 h1 (by omega) (by decide) (fun he => by omega), ← S.pos]
    split at h
    · rename_i c0
      rw [if_pos (by have := S.pos; omega)]
      split at h
      · rename_i c1
        rw [if_pos c1]
        exact comment_win W k j _ _ _ _ h (S.step 2) (by show lo ≤ r.pos + 2; omega) h2 hk'
      · rename_i c1
        rw [if_neg c1]
        split at h
        · rename_i c2
          rw [if_pos c2]
          split at h
          · rename_i c3
            rw [if_pos c3]
            cases h
            exact ⟨_, rfl, S.step 2⟩
          · rename_i c3
            rw [if_neg c3]
            exact comment_win W k j _ _ _ _ h (S.step 2) (by show lo ≤ r.pos + 2; omega) h2 hk'
        · rename_i c2
          rw [if_neg c2]
          split at h
          · rename_i c3
            rw [if_pos c3]
            exact comment_win W k j _ _ _ _ h S.lf (by show lo ≤ r.pos + 1; omega) h2 hk'
          · rename_i c3
            rw [if_neg c3]
            exact comment_win W k j _ _ _ _ h (S.step 1) (by show lo ≤ r.pos + 1; omega) h2 hk'
    · cases h

theorem lineEnd_two {p : Nat} (h : fol s p ⟨#[47, 47]⟩ = true) : p + 2 ≤ lineEndM s p := by
  rw [fol_two] at h
  simp only [Bool.and_eq_true, decide_eq_true_eq, beq_iff_eq] at h
  unfold lineEndM
  rw [runM_yes (by omega) (by rw [h.2.1]; rfl), runM_yes (by omega) (by rw [h.2.2]; rfl)]
  exact (runM_le s _ _ (by omega)).1
theorem skip_mono : ∀ (k : Nat) (r : Rd) (b : Bool) (q : Rd), skipK s k r = .ok (b, q) → r.pos ≤ q.pos
  | 0, _, _, _, h => by cases h; exact Nat.le_refl _
  | k + 1, r, b, q, h => by
    unfold skipK at h
    split at h
    · split at h
      · have := skip_mono k _ _ _ h
        simp [lfM] at this; omega
      · split at h
        · have := skip_mono k _ _ _ h
          simp at this; omega
        · split at h
          · rename_i c
            have := skip_mono k _ _ _ h
            have := lineEnd_two c
            simp at *; omega
          · split at h
            · split at h
              · cases h
              · rename_i z hz
                have := skip_mono k _ _ _ h
                have := comment_two _ _ _ _ hz
                omega
            · cases h; exact Nat.le_refl _
    · cases h; exact Nat.le_refl _
/-- A byte at which a token begins. -/
structure Tb (s : ByteArray) (n : Nat) : Prop where
  lt : n < s.size
  nl : fol s n ⟨#[10]⟩ = false
  cls : clsM (bt s n) ≠ 1
  c1 : fol s n ⟨#[47, 47]⟩ = false
  c2 : fol s n ⟨#[47, 42]⟩ = false
theorem skip_fin : ∀ (k : Nat) (r : Rd) (q : Rd), skipK s k r = .ok (true, q) → Tb s q.pos
  | 0, _, _, h => by cases h
  | k + 1, r, q, h => by
    unfold skipK at h
    split at h
    · rename_i c0
      split at h
      · exact skip_fin k _ _ h
      · rename_i c1
        split at h
        · exact skip_fin k _ _ h
        · rename_i c2
          split at h
          · exact skip_fin k _ _ h
          · rename_i c3
            split at h
            · split at h
              · cases h
              · exact skip_fin k _ _ h
            · rename_i c4
              cases h
              exact ⟨c0, by simpa using c1, c2, by simpa using c3, by simpa using c4⟩
    · cases h
theorem skip_tb {k : Nat} (h : Tb s r.pos) : skipK s (k + 1) r = .ok (true, r) := by
  unfold skipK
  rw [if_pos h.lt, h.nl, h.c1, h.c2, if_neg (by simp), if_neg h.cls, if_neg (by simp), if_neg (by simp)]
theorem skip_win (W : Win s s' at_ lo e d) : ∀ (k k' : Nat) (r q r' : Rd), skipK s k r = .ok (true, q) → Sh at_ d r r' → lo ≤ r.pos → q.pos < e → k ≤ k' → ∃ q', skipK s' k' r' = .ok (true, q') ∧ Sh at_ d q q'
  | 0, _, _, _, _, h, _, _, _, _ => by cases h
  | k + 1, k', r, q, r', h, S, h1, h2, hk => by
    have hw := W.le
    have hw' := W.le'
    have h3 := skip_mono _ _ _ _ h
    obtain ⟨j, rfl⟩ : ∃ j, k' = j + 1 := ⟨k' - 1, by omega⟩
    have hk' : k ≤ j := by omega
    unfold skipK at h ⊢
    have f1 : fol s' r'.pos ⟨#[10]⟩ = fol s r.pos ⟨#[10]⟩ := by rw [S.pos]; exact W.fol1 h1 (by omega) (by decide) (fun he => by omega)
    have f0 : bt s' r'.pos = bt s r.pos := by rw [S.pos]; exact W.by_ _ h1 (by omega)
    rw [f1, f0]
    split at h
    · rename_i c0
      rw [if_pos (by have := S.pos; omega)]
      split at h
      · rename_i c1
        rw [if_pos c1]
        exact skip_win W k j _ _ _ h S.lf (by show lo ≤ r.pos + 1; omega) h2 hk'
      · rename_i c1
        rw [if_neg c1]
        split at h
        · rename_i c2
          rw [if_pos c2]
          exact skip_win W k j _ _ _ h (S.step 1) (by show lo ≤ r.pos + 1; omega) h2 hk'
        · rename_i c2
          rw [if_neg c2]
          split at h
          · rename_i c3
            have g1 := lineEnd_two c3
            have g2 := skip_mono _ _ _ _ h
            simp only at g2
            have f2 : fol s' r'.pos ⟨#[47, 47]⟩ = fol s r.pos ⟨#[47, 47]⟩ := by rw [S.pos]; exact W.fol2 h1 (by omega) (by decide) (fun he => by omega)
            have f3 : lineEndM s' r'.pos = lineEndM s r.pos + d := by rw [S.pos]; exact W.run (P := fun b => b != 10) h1 (by omega) (.inl (by change lineEndM s r.pos < e; omega))
            rw [f2, if_pos c3, f3]
            exact skip_win W k j _ _ _ h (S.at _) (by show lo ≤ lineEndM s r.pos; omega) h2 hk'
          · rename_i c3
            have f2 : fol s' r'.pos ⟨#[47, 47]⟩ = fol s r.pos ⟨#[47, 47]⟩ := by rw [S.pos]; exact W.fol2 h1 (by omega) (by decide) (fun he => by simpa using c3)
            rw [f2, if_neg c3]
            split at h
            · rename_i c4
              split at h
              · cases h
              · rename_i z hz
                have g1 := comment_two _ _ _ _ hz
                have g2 := skip_mono _ _ _ _ h
                have f4 : fol s' r'.pos ⟨#[47, 42]⟩ = fol s r.pos ⟨#[47, 42]⟩ := by rw [S.pos]; exact W.fol2 h1 (by omega) (by decide) (fun he => by omega)
                rw [f4, if_pos c4]
                obtain ⟨z', hz', S'⟩ := comment_win W _ (s'.size + 1 - r'.pos) _ _ _ r' hz S h1 (by omega) (by have := W.sz; have := W.d1; have := S.pos; omega)
                unfold commentM
                rw [hz']
                exact skip_win W k j _ _ _ h S' (by omega) h2 hk'
            · rename_i c4
              have f4 : fol s' r'.pos ⟨#[47, 42]⟩ = fol s r.pos ⟨#[47, 42]⟩ := by rw [S.pos]; exact W.fol2 h1 (by omega) (by decide) (fun he => by simpa using c4)
              rw [f4, if_neg c4]
              cases h
              exact ⟨_, rfl, S⟩
    · cases h
end
end Go.Proofs.YtcdidmohgcegmaaDoor
