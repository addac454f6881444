/- Plain facts of the reader's model: what one token adds to the list: one token, or an interpolated string from its Start to its End. No condition on memory. -/
import Derived.Test.YtcdidmohgcegmaaDoorSpc
namespace Go.Proofs.YtcdidmohgcegmaaDoor

/-- Starts less Ends. -/
def insK (t : Tok) : Int := if t.kind = 8 then 1 else if t.kind = 10 then -1 else 0
def ins : List Tok → Int
  | [] => 0
  | t :: l => insK t + ins l
theorem ins_append : ∀ (a b : List Tok), ins (a ++ b) = ins a + ins b
  | [], b => by simp [ins]
  | t :: a, b => by simp [ins, ins_append a b]; omega
structure NN (x : List Tok) : Prop where
  sum : ins x = 0
  all : ∀ j, 0 ≤ ins (x.take j)
theorem NN.nil : NN [] := ⟨rfl, fun j => by simp [ins]⟩
theorem NN.one {t : Tok} (h1 : t.kind ≠ 8) (h2 : t.kind ≠ 10) : NN [t] := ⟨by simp [ins, insK, h1, h2], fun j => by cases j <;> simp [ins, insK, h1, h2]⟩
theorem NN.append {x y : List Tok} (hx : NN x) (hy : NN y) : NN (x ++ y) := by
  refine ⟨by rw [ins_append, hx.sum, hy.sum]; rfl, fun j => ?_⟩
  rw [List.take_append, ins_append]
  have := hx.all j
  have := hy.all (j - x.length)
  omega
/-- One token, or an interpolated string. -/
structure Grp (x : List Tok) : Prop where
  ne : 0 < x.length
  sum : ins x = 0
  pos : ∀ j, 0 < j → j < x.length → 0 < ins (x.take j)
theorem Grp.one {t : Tok} (h1 : t.kind ≠ 8) (h2 : t.kind ≠ 10) : Grp [t] := ⟨by simp, (NN.one h1 h2).sum, fun j h3 h4 => by simp at h4; omega⟩
theorem Grp.nn {x : List Tok} (h : Grp x) : NN x := by
  refine ⟨h.sum, fun j => ?_⟩
  rcases Nat.eq_zero_or_pos j with rfl | h0
  · simp [ins]
  · rcases Nat.lt_or_ge j x.length with h1 | h1
    · have := h.pos j h0 h1; omega
    · rw [List.take_of_length_le h1, h.sum]; exact Int.le_refl _
theorem Grp.str {a b : Tok} {y : List Tok} (ha : a.kind = 8) (hb : b.kind = 10) (hy : NN y) : Grp (a :: (y ++ [b])) := by
  refine ⟨by simp, by simp [ins, ins_append, insK, ha, hb, hy.sum], fun j h1 h2 => ?_⟩
  obtain ⟨i, rfl⟩ : ∃ i, j = i + 1 := ⟨j - 1, by omega⟩
  rw [List.take_succ_cons, List.take_append_of_le_length (by simp at h2; omega)]
  have := hy.all i
  simp [ins, insK, ha]
  omega

/-- What has been put between two states of the reader. -/
def Put (P : List Tok → Prop) (r q : Rd) : Prop := ∃ x, q.list = r.list ++ x ∧ P x ∧ ∀ t ∈ x, r.pos ≤ t.pos ∧ t.pos ≤ q.pos
/-- One plain token has been put at the reader's start. -/
def One (r q : Rd) : Prop := ∃ t, q.list = r.list ++ [t] ∧ t.kind ≠ 8 ∧ t.kind ≠ 10 ∧ t.pos = r.start

section
variable {s : ByteArray} {r q : Rd}
theorem one_put {kind en : Nat} {text : ByteArray} (h1 : kind ≠ 8) (h2 : kind ≠ 10) : One r (putM r kind text en) := ⟨_, rfl, h1, h2, rfl⟩
theorem one_named {kind en : Nat} (h : putNamedM s r kind en = .ok q) (h1 : kind ≠ 8) (h2 : kind ≠ 10) : One r q := by
  unfold putNamedM at h
  split at h
  · cases h
  · cases h; exact one_put h1 h2
theorem one_mark {m : ByteArray} (h : putMarkM r m = .ok q) : One r q := by
  unfold putMarkM at h
  split at h
  · split at h
    · split at h
      · cases h
      · split at h
        · cases h; exact one_put (r := { r with opn := r.opn.dropLast }) (by decide) (by decide)
        · cases h
    · cases h; exact one_put (by decide) (by decide)
  · split at h
    · cases h
    · cases h; exact one_put (r := { r with opn := _ }) (by decide) (by decide)
theorem one_number (h : numberM s r = .ok q) : One r q := by
  cases hl : (decide (digEndM s r.pos < s.size) && decide ((bt s (digEndM s r.pos)).toNat = 76)) with
  | false =>
    rw [numberM_short rfl hl] at h
    split at h
    · cases h
    · split at h
      · cases h
      · cases h; exact one_put (by decide) (by decide)
  | true =>
    rw [numberM_long rfl hl] at h
    split at h
    · cases h
    · split at h
      · cases h
      · cases h; exact one_put (by decide) (by decide)
theorem one_operator (h : operatorM s r = .ok q) : One r q := by
  unfold operatorM at h
  simp only at h
  split at h
  · exact one_mark h
  · exact one_named h (by decide) (by decide)
theorem one_char (h : charM s r = .ok q) : One r q := by
  unfold charM at h
  split at h
  · exact one_mark h
  · split at h
    · cases h
    · split at h
      · cases h; exact one_put (by decide) (by decide)
      · cases h
theorem one_plain (h : plainM s r = .ok q) : One r q := by
  unfold plainM at h
  split at h
  · cases h
  · cases h; exact one_put (by decide) (by decide)
theorem one_splice (h : spliceM s r = .ok q) : One r q := by
  unfold spliceM at h
  split at h
  · exact one_mark h
  · cases h
theorem one_nn (h : One r q) (h1 : r.pos ≤ r.start) (h2 : r.start ≤ q.pos) : Put NN r q := by
  obtain ⟨t, ht, k1, k2, k3⟩ := h
  exact ⟨[t], ht, NN.one k1 k2, fun u hu => by simp at hu; subst hu; omega⟩
theorem Put.nil (hl : q.list = r.list) : Put NN r q := ⟨[], by simp [hl], NN.nil, fun t ht => by cases ht⟩
theorem Put.trans {z : Rd} (h : Put NN r q) (k : Put NN q z) (h1 : r.pos ≤ q.pos) (h2 : q.pos ≤ z.pos) : Put NN r z := by
  obtain ⟨x, hx, nx, px⟩ := h
  obtain ⟨y, hy, ny, py⟩ := k
  refine ⟨x ++ y, by rw [hy, hx, List.append_assoc], nx.append ny, fun t ht => ?_⟩
  rw [List.mem_append] at ht
  rcases ht with ht | ht
  · have := px t ht; omega
  · have := py t ht; omega
theorem part_nn {b : Bool} (h : partM s r = .ok (b, q)) : Put NN r q := by
  unfold partM at h
  split at h
  · cases h
  · rename_i l p hc
    have := charsM_le hc
    cases h
    exact ⟨[⟨9, bytesOf l, r.pos, r.line, r.pos - r.ls⟩], rfl, NN.one (show (9 : Nat) ≠ 8 by decide) (show (9 : Nat) ≠ 10 by decide), fun t ht => by simp at ht; subst ht; simp [putM]; omega⟩

/-- What the model's token adds. -/
structure Added (r q : Rd) (x : List Tok) : Prop where
  list : q.list = r.list ++ x
  grp : Grp x
  all : ∀ t ∈ x, r.pos ≤ t.pos ∧ t.pos < q.pos
  first : ∀ t, x[0]? = some t → t.pos = r.pos
theorem One.added (h : One r q) (h1 : r.start = r.pos) (h2 : r.pos < q.pos) : ∃ x, Added r q x := by
  obtain ⟨t, ht, k1, k2, k3⟩ := h
  exact ⟨[t], ht, Grp.one k1 k2, fun u hu => by simp at hu; subst hu; omega, fun u hu => by simp at hu; subst hu; omega⟩
theorem Added.put {x : List Tok} (h : Added r q x) : Put NN r q := ⟨x, h.list, h.grp.nn, fun t ht => by have := h.all t ht; omega⟩
def TokAdd (tok : Rd → Except Flt Rd) (s : ByteArray) : Prop := ∀ (r q : Rd), tok r = .ok q → Inv 0 s r → Tb s r.pos → ∃ x, Added r q x
end
section
variable {s : ByteArray} {tok : Rd → Except Flt Rd}
theorem spliced_add (hT : TokInv tok s) (hA : TokAdd tok s) {outer : Nat} : ∀ (k : Nat) (r q : Rd), splicedK tok s outer k r = .ok q → Inv 0 s r → Put NN r q
  | 0, _, _, h, _ => by cases h
  | k + 1, r, q, h, hI => by
    unfold splicedK at h
    split at h
    · split at h
      · cases h
      · cases h
      · rename_i z hz
        have g1 := skipM_inv hz hI
        have g1' := g1.2.2.2.2 rfl
        have g2 := skip_fin _ _ _ hz
        split at h
        · cases h
        · rename_i z2 hz2
          have g3 := hT _ _ hz2 g1.1 g1'.1 g1'.2.1 g1'.2.2.1
          have g4 := (splicedK_inv hT _ _ _ h g3.1).2
          obtain ⟨x, hx⟩ := hA _ _ hz2 g1.1 g2
          exact ((Put.nil g1.2.2.2.1).trans hx.put g1.2.1 (by omega)).trans (spliced_add hT hA k _ _ h g3.1) (by omega) g4
    · cases h; exact Put.nil rfl
theorem expr_add (hT : TokInv tok s) (hA : TokAdd tok s) {r q : Rd} (h : exprM tok s r = .ok q) (hI : Inv 1 s r) (hp : r.pos < s.size) : Put NN r q := by
  have g0 := (exprM_inv hT h hI hp).2
  unfold exprM at h
  split at h
  · rename_i c
    have g2 := fol_len c
    have hz : (⟨#[36, 123]⟩ : ByteArray).size = 2 := rfl
    unfold splicedM at h
    split at h
    · cases h
    · rename_i z hz'
      have g1 := putMarkM_step (s := s) hz' rfl (by decide) (by show r.pos + _ ≤ _; omega) hI.opn
      have g3 := spliced_add hT hA _ _ _ h (g1.1.inv (hI.start r.pos))
      have g4 := (splicedK_inv hT _ _ _ h (g1.1.inv (hI.start r.pos))).2
      have g5 := g1.1.gt
      have g6 : Put NN { r with start := r.pos } z := one_nn (one_mark hz') (Nat.le_refl _) (by show r.pos ≤ z.pos; exact Nat.le_of_lt g5)
      exact g6.trans g3 (Nat.le_of_lt g5) g4
  · simp only at h
    split at h
    · cases h
    · have hq := putNamed_pos h
      have hle := runM_le s (fun i => inWordM (bt s i)) (r.pos + 1) (by omega)
      change r.pos + 1 ≤ wordEndM s (r.pos + 1) ∧ wordEndM s (r.pos + 1) ≤ s.size at hle
      have h8 : (if keywordM (s.extract (r.pos + 1) (wordEndM s (r.pos + 1))) = true then 1 else 0) ≠ 8 := by split <;> decide
      have h10 : (if keywordM (s.extract (r.pos + 1) (wordEndM s (r.pos + 1))) = true then 1 else 0) ≠ 10 := by split <;> decide
      have := one_nn (one_named h h8 h10) (by show r.pos ≤ r.pos + 1; omega) (by show r.pos + 1 ≤ q.pos; omega)
      exact this
theorem interp_add (hT : TokInv tok s) (hA : TokAdd tok s) : ∀ (k : Nat) (r q : Rd), interpK tok s k r = .ok q → Inv 0 s r → ∃ (y : List Tok) (b : Tok), q.list = r.list ++ (y ++ [b]) ∧ NN y ∧ b.kind = 10 ∧ (∀ t ∈ y ++ [b], r.pos ≤ t.pos ∧ t.pos < q.pos)
  | 0, _, _, h, _ => by cases h
  | k + 1, r, q, h, hI => by
    unfold interpK at h
    split at h
    · cases h
    · rename_i z hz
      have g1 := partM_inv hz hI
      obtain ⟨x, hx, nx, px⟩ := part_nn hz
      cases h
      refine ⟨x, ⟨10, ⟨#[]⟩, z.pos, z.line, z.pos - z.ls⟩, by simp [putM, hx], nx, rfl, fun t ht => ?_⟩
      rw [List.mem_append, List.mem_singleton] at ht
      have := g1.2.1
      rcases ht with ht | rfl
      · have := px t ht; simp [putM]; omega
      · simp [putM]; omega
    · rename_i z hz
      have g1 := partM_inv hz hI
      split at h
      · cases h
      · rename_i z2 hz2
        have g2 := exprM_inv hT hz2 g1.1 g1.2.2
        have g3 := (interpK_inv hT _ _ _ h g2.1).2
        have g4 := g1.2.1
        obtain ⟨x, hx, nx, px⟩ := (part_nn hz).trans (expr_add hT hA hz2 g1.1 g1.2.2) g1.2.1 (by omega)
        obtain ⟨y, b, hy, ny, hb, py⟩ := interp_add hT hA k _ _ h g2.1
        refine ⟨x ++ y, b, by rw [hy, hx]; simp, nx.append ny, hb, fun t ht => ?_⟩
        rw [List.append_assoc, List.mem_append] at ht
        rcases ht with ht | ht
        · have := px t ht; omega
        · have := py t ht; omega
theorem word_add (hT : TokInv tok s) (hA : TokAdd tok s) {r q : Rd} (h : wordM tok s r = .ok q) (hI : Inv 0 s r) (h0 : r.start = r.pos) (hp : r.pos < s.size) (hc : clsM (bt s r.pos) = 2) : ∃ x, Added r q x := by
  have gq := (wordM_inv hT h hI h0 hp hc).2
  have g0 := runM_gt (f := fun i => inWordM (bt s i)) hp (by simp [inWordM, hc])
  change r.pos < wordEndM s r.pos ∧ wordEndM s r.pos ≤ s.size at g0
  unfold wordM at h
  simp only at h
  split at h
  · exact (one_mark h).added h0 gq
  · split at h
    · exact (one_named h (by decide) (by decide)).added h0 gq
    · split at h
      · rename_i hf
        have h2 := fol_len hf
        have hz1 : (⟨#[34]⟩ : ByteArray).size = 1 := rfl
        split at h
        · cases h
        · rename_i z hz
          have z1 := putNamedM_step hz g0.1 g0.2 hI.opn
          have z4 : Inv 0 s z := z1.1.inv hI.more
          have z5 : Inv 0 s { z with pos := wordEndM s r.pos + 1 } := ⟨by show wordEndM s r.pos + 1 ≤ _; omega, by show z.line ≤ wordEndM s r.pos + 1; have := z4.line; have := z1.2; omega, by show z.ls ≤ wordEndM s r.pos + 1; have := z4.ls; have := z1.2; omega, by show z.list.length ≤ 2 * (wordEndM s r.pos + 1) + 0; have := z4.len; have := z1.2; omega, z4.opn⟩
          obtain ⟨y, b, hy, ny, hb, py⟩ := interp_add hT hA _ _ _ h z5
          have hzl : ∃ a, z.list = r.list ++ [a] ∧ a.kind = 8 ∧ a.pos = r.start := by
            unfold putNamedM at hz
            split at hz
            · cases hz
            · cases hz; exact ⟨_, rfl, rfl, rfl⟩
          obtain ⟨a, ha, ka, pa⟩ := hzl
          refine ⟨a :: (y ++ [b]), by rw [hy]; show z.list ++ _ = _; rw [ha]; simp, Grp.str ka hb ny, fun t ht => ?_, fun t ht => ?_⟩
          · rw [List.mem_cons] at ht
            rcases ht with rfl | ht
            · omega
            · have := py t ht; simp at this; omega
          · simp at ht; subst ht; omega
      · exact (one_named h (by decide) (by decide)).added h0 gq
theorem tokenF_add (hT : TokInv tok s) (hA : TokAdd tok s) : TokAdd (tokenF tok s) s := by
  intro r q h hI hB
  have gq := (tokenF_inv hT _ _ h hI hB.lt hB.c1 hB.c2).2
  have key : ∀ {z : Rd}, One { r with start := r.pos } z → r.pos < z.pos → ∃ x, Added r z x := fun h1 h2 => by
    obtain ⟨x, hx⟩ := h1.added (r := { r with start := r.pos }) rfl h2
    exact ⟨x, hx.list, hx.grp, hx.all, hx.first⟩
  unfold tokenF at h
  simp only at h
  split at h
  · rename_i c
    obtain ⟨x, hx⟩ := word_add (r := { r with start := r.pos }) hT hA h (hI.start _) rfl hB.lt c
    exact ⟨x, hx.list, hx.grp, hx.all, hx.first⟩
  · split at h
    · exact key (one_number h) gq
    · split at h
      · exact key (one_operator h) gq
      · split at h
        · exact key (one_mark h) gq
        · split at h
          · exact key (one_char h) gq
          · split at h
            · exact key (one_plain h) gq
            · split at h
              · exact key (one_splice h) gq
              · cases h
end
theorem tokenM_add (s : ByteArray) : ∀ n, TokAdd (tokenM s n) s
  | 0 => fun _ _ h => by cases h
  | n + 1 => tokenF_add (tokenM_inv s n) (tokenM_add s n)
end Go.Proofs.YtcdidmohgcegmaaDoor
