/- The canonical text of what Raw returned, read again: same kinds, same texts. Conditions: none on memory. -/
import Derived.Test.YtcdidmohgcegmaaDoorSpd
import Derived.Test.YtcdidmohgcegmaaDoorLye
import Derived.Test.YtcdidmohgcegmaaDoorSpe
/- The canonical text of tokens, as plain lists of bytes, and what the reader's model makes of its literals. No condition on memory. -/
namespace Go.Proofs.YtcdidmohgcegmaaDoor

def hexD (n : Nat) : UInt8 := if n < 10 then UInt8.ofNat (48 + n) else UInt8.ofNat (87 + n)
def hexF (c : UInt8) : List UInt8 := [92, 120, hexD (c.toNat / 16), hexD (c.toNat % 16)]
/-- One byte of a literal: 'slashed' have a backslash in front, 'coded' are written as hexadecimal digits. -/
def escB (sl co : List UInt8) (c : UInt8) : List UInt8 :=
  if c.toNat = 10 then [92, 110] else if c.toNat = 9 then [92, 116]
  else if c.toNat = 92 ∨ sl.contains c = true then [92, c]
  else if c.toNat < 32 ∨ 126 < c.toNat ∨ co.contains c = true then hexF c
  else [c]
def escL (sl co : List UInt8) (l : List UInt8) : List UInt8 := l.flatMap (escB sl co)
def partL (beh : Bool) : List UInt8 → List UInt8
  | [] => []
  | c :: l => if beh && inWordM c then hexF c ++ escL [34, 36] [] l else escL [34, 36] [] (c :: l)

def tl (t : Tok) : List UInt8 := t.text.data.toList
/-- The canonical form of a token behind a token of kind p (15: behind none). -/
def canL (p : Nat) (t : Tok) : List UInt8 :=
  if t.kind = 0 ∨ t.kind = 1 then (if p = 9 then 36 :: tl t else tl t)
  else if t.kind = 5 then tl t ++ [76]
  else if t.kind = 6 then 39 :: (escL [39] [123] (tl t) ++ [39])
  else if t.kind = 7 then 34 :: (escL [34] [] (tl t) ++ [34])
  else if t.kind = 8 then tl t ++ [34]
  else if t.kind = 9 then partL (p == 0 || p == 1) (tl t)
  else if t.kind = 10 then [34]
  else tl t
def sepL (p : Nat) (t : Tok) : List UInt8 := if p = 15 ∨ p = 8 ∨ p = 9 ∨ t.kind = 9 then [] else [32]
/-- The text of tokens behind a token of kind p. -/
def shoL : Nat → List Tok → List UInt8
  | _, [] => []
  | p, t :: l => sepL p t ++ canL p t ++ shoL t.kind l
def lastK : Nat → List Tok → Nat
  | p, [] => p
  | _, t :: l => lastK t.kind l
theorem lastK_append : ∀ (p : Nat) (a b : List Tok), lastK p (a ++ b) = lastK (lastK p a) b
  | _, [], _ => rfl
  | _, t :: a, b => lastK_append t.kind a b
theorem shoL_append : ∀ (p : Nat) (a b : List Tok), shoL p (a ++ b) = shoL p a ++ shoL (lastK p a) b
  | _, [], _ => rfl
  | p, t :: a, b => by simp [shoL, lastK, shoL_append t.kind a b]

/-- The bytes of T from p on begin with f. -/
def Has (T : ByteArray) (p : Nat) (f : List UInt8) : Prop := ∀ j (h : j < f.length), p + j < T.size ∧ bt T (p + j) = f[j]
theorem Has.nil (T : ByteArray) (p : Nat) : Has T p [] := fun j h => by simp at h
theorem Has.left {T : ByteArray} {p : Nat} {f g : List UInt8} (h : Has T p (f ++ g)) : Has T p f := fun j hj => by
  have := h j (by simp; omega)
  rw [List.getElem_append_left hj] at this
  exact this
theorem Has.right {T : ByteArray} {p : Nat} {f g : List UInt8} (h : Has T p (f ++ g)) : Has T (p + f.length) g := fun j hj => by
  have := h (f.length + j) (by simp; omega)
  rw [List.getElem_append_right (by omega)] at this
  simp only [Nat.add_sub_cancel_left] at this
  rw [Nat.add_assoc]
  exact this
theorem Has.head {T : ByteArray} {p : Nat} {c : UInt8} {f : List UInt8} (h : Has T p (c :: f)) : p < T.size ∧ bt T p = c := h 0 (by simp)
theorem Has.tail {T : ByteArray} {p : Nat} {c : UInt8} {f : List UInt8} (h : Has T p (c :: f)) : Has T (p + 1) f := Has.right (f := [c]) h
theorem Has.len {T : ByteArray} {p : Nat} {f : List UInt8} (h : Has T p f) (hp : p ≤ T.size) : p + f.length ≤ T.size := by
  rcases Nat.eq_zero_or_pos f.length with h0 | h0
  · omega
  · have := (h (f.length - 1) (by omega)).1
    omega
theorem Has.ext {T s : ByteArray} {p a b : Nat} (h : Has T p (s.extract a b).data.toList) (hp : p ≤ T.size) (hb : b ≤ s.size) : T.extract p (p + (b - a)) = s.extract a b := by
  have hl : (s.extract a b).data.toList.length = b - a := by simp; omega
  have := h.len hp
  refine extract_same hb (by omega) (by omega) fun j hj => ?_
  have h1 := (h j (by omega)).2
  rw [h1]
  have h2 := bt_data (s.extract a b) j (by rw [ByteArray.size_extract]; omega)
  rw [List.getElem?_eq_getElem (by omega)] at h2
  have h3 := Option.some.inj h2
  rw [h3, bt_extract _ _ _ _ hb (by omega)]
theorem has_self (T : ByteArray) : Has T 0 T.data.toList := fun j h => by
  have hj : j < T.size := by simpa using h
  refine ⟨by omega, ?_⟩
  have := bt_data T j hj
  rw [List.getElem?_eq_getElem h] at this
  rw [Nat.zero_add]
  exact (Option.some.inj this).symm

/-- A form is read as the byte c, and does not begin like an end of the literal. -/
def okForm (e o : Nat) (f : List UInt8) (c : UInt8) : Bool :=
  decide (32 ≤ (f.getD 0 0).toNat) && decide ((f.getD 0 0).toNat ≠ e) && decide ((f.getD 0 0).toNat ≠ o) &&
  (if (f.getD 0 0).toNat = 92 then decide (1 < f.length) && (unescB (f.length - 1) (f.getD 1 0) (f.getD 2 0) (f.getD 3 0) == (c, f.length - 1)) else decide (f = [c]))
theorem form_str : ∀ c : Fin 256, okForm 34 34 (escB [34] [] (UInt8.ofNat c.val)) (UInt8.ofNat c.val) = true := by decide +kernel
theorem form_char : ∀ c : Fin 256, okForm 39 39 (escB [39] [123] (UInt8.ofNat c.val)) (UInt8.ofNat c.val) = true ∧ (escB [39] [123] (UInt8.ofNat c.val)).getD 0 0 ≠ 123 := by decide +kernel
theorem form_part : ∀ c : Fin 256, okForm 34 36 (escB [34, 36] [] (UInt8.ofNat c.val)) (UInt8.ofNat c.val) = true := by decide +kernel
theorem form_hex : ∀ c : Fin 256, okForm 34 36 (hexF (UInt8.ofNat c.val)) (UInt8.ofNat c.val) = true := by decide +kernel
theorem fin_byte (c : UInt8) : ∃ n : Fin 256, UInt8.ofNat n.val = c := ⟨⟨c.toNat, c.toNat_lt⟩, by simp⟩
theorem okForm_len {e o : Nat} {f : List UInt8} {c : UInt8} (h : okForm e o f c = true) : 0 < f.length := by
  rcases Nat.eq_zero_or_pos f.length with h0 | h0
  · rw [List.eq_nil_of_length_eq_zero h0] at h
    simp [okForm] at h
  · exact h0
theorem has_getD {T : ByteArray} {p : Nat} {f : List UInt8} (h : Has T p f) (j : Nat) (hj : j < f.length) : bt T (p + j) = f.getD j 0 ∧ p + j < T.size := by
  have := h j hj
  refine ⟨?_, this.1⟩
  rw [this.2, List.getD, List.getElem?_eq_getElem hj]; rfl

theorem form_read {T : ByteArray} {p e o : Nat} {f : List UInt8} {c : UInt8} (h : okForm e o f c = true) (hT : Has T p f) :
    characterM T p = some (c, p + f.length) ∧ p < T.size ∧ 32 ≤ (bt T p).toNat ∧ (bt T p).toNat ≠ e ∧ (bt T p).toNat ≠ o := by
  have hl := okForm_len h
  have h0 := has_getD hT 0 hl
  rw [Nat.add_zero] at h0
  unfold okForm at h
  simp only [Bool.and_eq_true, decide_eq_true_eq] at h
  obtain ⟨⟨⟨h1, h2⟩, h3⟩, h4⟩ := h
  rw [← h0.1] at h1 h2 h3 h4
  refine ⟨?_, h0.2, h1, h2, h3⟩
  unfold characterM
  split at h4
  · rename_i h92
    rw [if_pos h92]
    simp only [Bool.and_eq_true, decide_eq_true_eq, beq_iff_eq] at h4
    obtain ⟨h5, h6⟩ := h4
    have hlast := has_getD hT (f.length - 1) (by omega)
    have hu : unescM (T.extract (p + 1) T.size) = (c, f.length - 1) := by
      rw [unescM_eq, ← h6]
      have e1 : (T.extract (p + 1) T.size).size = T.size - (p + 1) := by rw [ByteArray.size_extract]; omega
      have e2 : (unescB (f.length - 1) (f.getD 1 0) (f.getD 2 0) (f.getD 3 0)).2 = f.length - 1 := by rw [h6]
      have hb : ∀ j, j + 1 < f.length → bt (T.extract (p + 1) T.size) j = f.getD (j + 1) 0 := fun j hj => by
        have := has_getD hT (j + 1) hj
        rw [bt_extract _ _ _ _ (Nat.le_refl _) (by omega), show p + 1 + j = p + (j + 1) by omega]
        exact this.1
      exact unescB_win (by rw [e2]; omega) (hb 0 (by omega)) (by rw [e2]; omega) (fun h3 => by rw [e2] at h3; exact ⟨hb 1 (by omega), hb 2 (by omega)⟩)
    rw [hu]
    simp only
    rw [if_neg (by omega)]
    congr 2
    omega
  · rename_i h92
    rw [if_neg h92]
    have h5 : f = [c] := by simpa using h4
    rw [h5] at h0 ⊢
    have h6 : bt T p = c := h0.1
    rw [h6]
    rfl

/-- Forms, one after another, are read as their bytes. -/
theorem forms_read {T : ByteArray} {e o st : Nat} : ∀ (fs : List (List UInt8 × UInt8)) (k p : Nat) (acc : List UInt8), (∀ x ∈ fs, okForm e o x.1 x.2 = true) → Has T p (fs.flatMap Prod.fst) →
    p + (fs.flatMap Prod.fst).length < T.size → (32 ≤ (bt T (p + (fs.flatMap Prod.fst).length)).toNat ∧ ((bt T (p + (fs.flatMap Prod.fst).length)).toNat = e ∨ (bt T (p + (fs.flatMap Prod.fst).length)).toNat = o)) → fs.length < k →
    charsK T e o st k p acc = .ok (acc ++ fs.map Prod.snd, p + (fs.flatMap Prod.fst).length)
  | [], k, p, acc, _, _, hlt, hst, hk => by
    obtain ⟨j, rfl⟩ : ∃ j, k = j + 1 := ⟨k - 1, by simp at hk; omega⟩
    simp only [List.flatMap_nil, List.length_nil, Nat.add_zero] at hlt hst ⊢
    unfold charsK
    rw [if_pos ⟨hlt, hst.1⟩, if_pos (by omega)]
    simp
  | x :: fs, k, p, acc, hf, hT, hlt, hst, hk => by
    obtain ⟨j, rfl⟩ : ∃ j, k = j + 1 := ⟨k - 1, by simp at hk; omega⟩
    simp only [List.flatMap_cons, List.length_append] at hT hlt hst ⊢
    obtain ⟨h1, h2, h3, h4, h5⟩ := form_read (hf x (by simp)) hT.left
    have ih := forms_read (st := st) fs j (p + x.1.length) (acc ++ [x.2]) (fun y hy => hf y (by simp [hy])) hT.right (by omega)
      (by rw [Nat.add_assoc]; exact hst) (by simp at hk; omega)
    unfold charsK
    rw [if_pos ⟨h2, h3⟩, if_neg (by omega), h1]
    simp only
    rw [ih, List.append_assoc, Nat.add_assoc]
    rfl
theorem pairs_esc (sl co : List UInt8) (l : List UInt8) : (l.map fun c => (escB sl co c, c)).flatMap Prod.fst = escL sl co l ∧ (l.map fun c => (escB sl co c, c)).map Prod.snd = l := by
  refine ⟨?_, by simp [Function.comp_def]⟩
  unfold escL
  rw [List.flatMap_map]
theorem esc_len (sl co : List UInt8) (h : ∀ c : UInt8, 0 < (escB sl co c).length) : ∀ l : List UInt8, l.length ≤ (escL sl co l).length
  | [] => by simp [escL]
  | c :: l => by
    have := esc_len sl co h l
    have := h c
    unfold escL at *
    simp only [List.flatMap_cons, List.length_append, List.length_cons]
    omega
theorem str_read {T : ByteArray} {p st : Nat} {l : List UInt8} (hT : Has T p (escL [34] [] l ++ [34])) : charsM T 34 34 st p = .ok (l, p + (escL [34] [] l).length) := by
  have hall : ∀ c : UInt8, okForm 34 34 (escB [34] [] c) c = true := fun c => by obtain ⟨n, rfl⟩ := fin_byte c; exact form_str n
  have hp := pairs_esc [34] [] l
  have hend := hT.right.head
  have hlen := esc_len [34] [] (fun c => okForm_len (hall c)) l
  have := forms_read (T := T) (e := 34) (o := 34) (st := st) (l.map fun c => (escB [34] [] c, c)) (T.size + 1 - p) p [] (fun x hx => by
    obtain ⟨c, _, rfl⟩ := List.mem_map.1 hx
    exact hall c) (by rw [hp.1]; exact hT.left) (by rw [hp.1]; exact hend.1) (by rw [hp.1, hend.2]; decide) (by simp; omega)
  rw [hp.1, hp.2] at this
  exact this
theorem chr_read {T : ByteArray} {p st : Nat} {l : List UInt8} (hT : Has T p (escL [39] [123] l ++ [39])) : charsM T 39 39 st p = .ok (l, p + (escL [39] [123] l).length) := by
  have hall : ∀ c : UInt8, okForm 39 39 (escB [39] [123] c) c = true := fun c => by obtain ⟨n, rfl⟩ := fin_byte c; exact (form_char n).1
  have hp := pairs_esc [39] [123] l
  have hend := hT.right.head
  have hlen := esc_len [39] [123] (fun c => okForm_len (hall c)) l
  have := forms_read (T := T) (e := 39) (o := 39) (st := st) (l.map fun c => (escB [39] [123] c, c)) (T.size + 1 - p) p [] (fun x hx => by
    obtain ⟨c, _, rfl⟩ := List.mem_map.1 hx
    exact hall c) (by rw [hp.1]; exact hT.left) (by rw [hp.1]; exact hend.1) (by rw [hp.1, hend.2]; decide) (by simp; omega)
  rw [hp.1, hp.2] at this
  exact this
theorem prt_read {T : ByteArray} {p st : Nat} {beh : Bool} {l : List UInt8} (hT : Has T p (partL beh l)) (h1 : p + (partL beh l).length < T.size) (h2 : (bt T (p + (partL beh l).length)).toNat = 34 ∨ (bt T (p + (partL beh l).length)).toNat = 36) :
    charsM T 34 36 st p = .ok (l, p + (partL beh l).length) := by
  have hall : ∀ c : UInt8, okForm 34 36 (escB [34, 36] [] c) c = true := fun c => by obtain ⟨n, rfl⟩ := fin_byte c; exact form_part n
  have hhex : ∀ c : UInt8, okForm 34 36 (hexF c) c = true := fun c => by obtain ⟨n, rfl⟩ := fin_byte c; exact form_hex n
  have key : ∃ fs : List (List UInt8 × UInt8), (∀ x ∈ fs, okForm 34 36 x.1 x.2 = true) ∧ fs.flatMap Prod.fst = partL beh l ∧ fs.map Prod.snd = l := by
    cases l with
    | nil => exact ⟨[], by simp, rfl, rfl⟩
    | cons c l =>
      have hp := pairs_esc [34, 36] [] l
      have hp2 := pairs_esc [34, 36] [] (c :: l)
      cases hb : (beh && inWordM c) with
      | true =>
        rw [partL, hb, if_pos rfl]
        refine ⟨(hexF c, c) :: l.map fun c => (escB [34, 36] [] c, c), fun x hx => ?_, by rw [List.flatMap_cons, hp.1], by rw [List.map_cons, hp.2]⟩
        rw [List.mem_cons] at hx
        rcases hx with rfl | hx
        · exact hhex c
        · obtain ⟨d, _, rfl⟩ := List.mem_map.1 hx
          exact hall d
      | false =>
        rw [partL, hb, if_neg (by simp)]
        refine ⟨(c :: l).map fun c => (escB [34, 36] [] c, c), fun x hx => ?_, hp2.1, hp2.2⟩
        obtain ⟨d, _, rfl⟩ := List.mem_map.1 hx
        exact hall d
  obtain ⟨fs, f1, f2, f3⟩ := key
  have hlen : fs.length ≤ (fs.flatMap Prod.fst).length := by
    clear f2 f3
    induction fs with
    | nil => simp
    | cons x fs ih =>
      have h3 := okForm_len (f1 x (by simp))
      have h4 := ih (fun y hy => f1 y (by simp [hy]))
      simp only [List.flatMap_cons, List.length_append, List.length_cons]
      omega
  have := forms_read (T := T) (e := 34) (o := 36) (st := st) fs (T.size + 1 - p) p [] f1 (by rw [f2]; exact hT) (by rw [f2]; exact h1) (by rw [f2]; exact ⟨by omega, h2⟩) (by rw [f2] at hlen; omega)
  rw [f2, f3] at this
  exact this
end Go.Proofs.YtcdidmohgcegmaaDoor
/- The reader's model over the canonical text of what it read: tokens without interpolated strings. No condition on memory. -/
namespace Go.Proofs.YtcdidmohgcegmaaDoor

def kt (t : Tok) : Nat × ByteArray := (t.kind, t.text)
/-- The reader of the canonical text has read the same tokens; it stands d bytes behind them. -/
structure Bk (d : Nat) (r r' : Rd) : Prop where
  pos : r'.pos = (shoL 15 r.list).length + d
  opn : r'.opn.map Prod.fst = r.opn.map Prod.fst
  list : r'.list.map kt = r.list.map kt
def Sim (q : Rd) (o : Except Flt Rd) : Prop := ∃ q', o = .ok q' ∧ Bk 0 q q'
/-- T is the canonical text of L. -/
structure Can (T : ByteArray) (L : List Tok) : Prop where
  has : Has T 0 (shoL 15 L)
  size : T.size = (shoL 15 L).length
/-- Behind a token: the end, or a blank. -/
def Nx (T : ByteArray) (n : Nat) : Prop := T.size ≤ n ∨ bt T n = 32

theorem sho_snoc (a : List Tok) (t : Tok) : (shoL 15 (a ++ [t])).length = (shoL 15 a).length + (sepL (lastK 15 a) t).length + (canL (lastK 15 a) t).length := by
  rw [shoL_append]
  simp [shoL]
  omega
theorem Can.at {T : ByteArray} {L a y : List Tok} {t : Tok} (h : Can T L) (hL : L = a ++ t :: y) : Has T ((shoL 15 a).length + (sepL (lastK 15 a) t).length) (canL (lastK 15 a) t ++ shoL t.kind y) ∧ (shoL 15 a).length + (sepL (lastK 15 a) t).length ≤ T.size := by
  have h1 := h.has
  rw [hL, shoL_append] at h1
  have h2 := h1.right
  simp only [shoL] at h2
  rw [List.append_assoc] at h2
  have h3 := h2.right
  rw [Nat.zero_add] at h3
  refine ⟨h3, ?_⟩
  rw [h.size, hL, shoL_append]
  simp [shoL]

section
variable {s T : ByteArray} {d : Nat} {r r' q : Rd} {L y : List Tok}
theorem Bk.len (B : Bk d r r') : r'.opn.length = r.opn.length := by simpa using congrArg List.length B.opn
theorem bk_put (B : Bk d r r') {kind en : Nat} {text : ByteArray} {en' : Nat} (h : en' = (shoL 15 (putM r kind text en).list).length) : Bk 0 (putM r kind text en) (putM r' kind text en') :=
  ⟨h, B.opn, by simp only [putM, List.map_append, List.map_cons, List.map_nil, B.list, kt]⟩
theorem named_eq {kind en en' : Nat} (h : putNamedM s r kind en = .ok q) (he : T.extract r'.start en' = s.extract r.start en) :
    q = putM r kind (s.extract r.start en) en ∧ putNamedM T r' kind en' = .ok (putM r' kind (s.extract r.start en) en') := by
  unfold putNamedM at h ⊢
  rw [he]
  split at h
  · cases h
  · rename_i hn
    cases h
    exact ⟨rfl, if_neg hn⟩
theorem mark_tok {m : ByteArray} (h : putMarkM r m = .ok q) : q.list = r.list ++ [⟨3, m, r.start, r.line, r.start - r.ls⟩] := by
  unfold putMarkM at h
  split at h
  · split at h
    · split at h
      · cases h
      · split at h
        · cases h; rfl
        · cases h
    · cases h; rfl
  · split at h
    · cases h
    · cases h; rfl
theorem lastOp_bk (B : Bk d r r') : (lastOp r').1 = (lastOp r).1 := by
  unfold lastOp
  rw [lastD_map Prod.fst, lastD_map Prod.fst, B.opn]
theorem mark_bk (B : Bk d r r') {m : ByteArray} (h : putMarkM r m = .ok q) (hp : r'.start + m.size = (shoL 15 q.list).length) : Sim q (putMarkM r' m) := by
  have hl := B.len
  unfold putMarkM at h ⊢
  split at h
  · rename_i c1
    rw [if_pos c1]
    split at h
    · rename_i c2
      rw [if_pos c2]
      split at h
      · cases h
      · rename_i c3
        rw [if_neg (by omega)]
        split at h
        · rename_i c4
          cases h
          rw [lastOp_bk B, if_pos c4]
          refine ⟨_, rfl, ⟨hp, ?_, ?_⟩⟩
          · show r'.opn.dropLast.map Prod.fst = r.opn.dropLast.map Prod.fst
            rw [dropLast_map, dropLast_map, B.opn]
          · simp only [putM, List.map_append, List.map_cons, List.map_nil, B.list, kt]
        · cases h
    · rename_i c2
      cases h
      rw [if_neg c2]
      exact ⟨_, rfl, bk_put B hp⟩
  · rename_i c1
    rw [if_neg c1]
    split at h
    · cases h
    · rename_i c2
      cases h
      rw [if_neg (by omega)]
      refine ⟨_, rfl, ⟨hp, ?_, ?_⟩⟩
      · simp [putM, B.opn]
      · simp only [putM, List.map_append, List.map_cons, List.map_nil, B.list, kt]

/-- A token at hand: where it stands in the canonical text. -/
structure Hand (T : ByteArray) (L : List Tok) (r r' : Rd) (t : Tok) (y : List Tok) : Prop where
  can : Can T L
  eq : L = r.list ++ t :: y
  p8 : lastK 15 r.list ≠ 8
  p9 : lastK 15 r.list ≠ 9
  bk : Bk (sepL (lastK 15 r.list) t).length r r'
  start : r'.start = r'.pos
theorem Hand.has {t : Tok} (H : Hand T L r r' t y) : Has T r'.pos (canL (lastK 15 r.list) t ++ shoL t.kind y) ∧ r'.pos ≤ T.size := by
  have := H.can.at H.eq
  rw [H.bk.pos]
  exact this
theorem Hand.next {t : Tok} (H : Hand T L r r' t y) : (shoL 15 (r.list ++ [t])).length = r'.pos + (canL (lastK 15 r.list) t).length := by
  rw [sho_snoc, H.bk.pos]
/-- Behind the token stands the end of the text, or a blank. -/
theorem Hand.nx {t : Tok} (H : Hand T L r r' t y) (hy : ∀ u z, y = u :: z → u.kind ≠ 9) (h8 : t.kind ≠ 8) (h9 : t.kind ≠ 9) (h15 : t.kind ≠ 15) : Nx T (r'.pos + (canL (lastK 15 r.list) t).length) := by
  have h := H.has.1.right
  cases y with
  | nil =>
    refine .inl ?_
    rw [← H.next, H.can.size, H.eq]
    exact Nat.le_refl _
  | cons u z =>
    have hu := hy u z rfl
    simp only [shoL] at h
    have : sepL t.kind u = [32] := by unfold sepL; rw [if_neg]; rintro (h | h | h | h) <;> contradiction
    rw [this] at h
    exact .inr (Has.head h).2

theorem nx_word {n : Nat} (h : Nx T n) (hn : n < T.size) : inWordM (bt T n) = false := by
  rcases h with h | h
  · omega
  · rw [h]; decide
theorem nx_dig {n : Nat} (h : Nx T n) (hn : n < T.size) : (clsM (bt T n) == 3) = false := by
  rcases h with h | h
  · omega
  · rw [h]; decide
theorem nx_fol {n : Nat} {a : UInt8} (h : Nx T n) (ha : a ≠ 32) : fol T n ⟨#[a]⟩ = false := by
  rw [fol_one]
  rcases h with h | h
  · have : ¬(n < T.size) := by omega
    simp [this]
  · rw [h]; simp; intro _ e; exact ha e.symm
/-- A run of bytes stands in the canonical text. -/
theorem run_can {P : UInt8 → Bool} {n : Nat} {f : List UInt8} {p : Nat} (hT : Has T p f) (hp : p ≤ T.size) (hf : ∀ j (h : j < f.length), P f[j] = true) (hn : n = p + f.length) (hst : n < T.size → P (bt T n) = false) :
    runM T (fun i => P (bt T i)) p = n := by
  have := hT.len hp
  refine runM_uniq (by omega) hst f.length p hn fun i h1 h2 => ?_
  obtain ⟨j, rfl⟩ : ∃ j, i = p + j := ⟨i - p, by omega⟩
  rw [(hT j (by omega)).2]
  exact hf j (by omega)
theorem ext_bytes {a b : Nat} (hb : b ≤ s.size) (j : Nat) (h : j < (s.extract a b).data.toList.length) : (s.extract a b).data.toList[j] = bt s (a + j) ∧ a + j < b := by
  have hl : (s.extract a b).data.toList.length = b - a := by simp; omega
  have h2 := bt_data (s.extract a b) j (by rw [ByteArray.size_extract]; omega)
  rw [List.getElem?_eq_getElem h] at h2
  rw [Option.some.inj h2, bt_extract _ _ _ _ hb (by omega)]
  exact ⟨rfl, by omega⟩
theorem ext_list_len {a b : Nat} (hb : b ≤ s.size) : (s.extract a b).data.toList.length = b - a := by simp; omega

/-- A word, its bytes the canonical form's first. -/
theorem word_can {en : Nat} (hen : en = wordEndM s r.pos) (hp : r.pos < en) (hes : en ≤ s.size) (hT : Has T r'.pos (s.extract r.pos en).data.toList) (hpT : r'.pos ≤ T.size) (hst : r'.pos + (en - r.pos) < T.size → inWordM (bt T (r'.pos + (en - r.pos))) = false) :
    wordEndM T r'.pos = r'.pos + (en - r.pos) ∧ T.extract r'.pos (r'.pos + (en - r.pos)) = s.extract r.pos en ∧ bt T r'.pos = bt s r.pos := by
  have hl := ext_list_len (s := s) (a := r.pos) hes
  refine ⟨run_can (P := inWordM) hT hpT (fun j hj => ?_) (by rw [hl]) hst, hT.ext hpT hes, ?_⟩
  · obtain ⟨e1, e2⟩ := ext_bytes hes j hj
    rw [e1]
    exact runM_all (s := s) (f := fun i => inWordM (bt s i)) (p := r.pos) (by omega) (by rw [hen] at e2; exact e2)
  · have h0 := hT 0 (by rw [hl]; omega)
    rw [(ext_bytes hes 0 (by rw [hl]; omega)).1] at h0
    simpa using h0.2
theorem single_bk {t : Tok} (H : Hand T L r r' t y) (hst : r.start = r.pos) (h : putMarkM r (s.extract r.pos (r.pos + 1)) = .ok q) (hp : r.pos < s.size) (hq : q.list = r.list ++ [t]) (ht : t.kind = 3 ∧ t.text = s.extract r.pos (r.pos + 1)) :
    bt T r'.pos = bt s r.pos ∧ Sim q (putMarkM r' (T.extract r'.pos (r'.pos + 1))) := by
  have hc : canL (lastK 15 r.list) t = (s.extract r.pos (r.pos + 1)).data.toList := by unfold canL tl; rw [ht.1, ht.2]; simp
  have hT := H.has
  have hn := H.next
  rw [hc] at hT hn
  have hl := ext_list_len (s := s) (a := r.pos) (show r.pos + 1 ≤ s.size by omega)
  have he := hT.1.left.ext hT.2 (by omega)
  rw [show r.pos + 1 - r.pos = 1 by omega] at he
  have h0 := hT.1.left 0 (by rw [hl]; omega)
  rw [(ext_bytes (by omega) 0 (by rw [hl]; omega)).1] at h0
  refine ⟨by simpa using h0.2, ?_⟩
  rw [he]
  refine mark_bk H.bk h ?_
  rw [hq, hn, H.start, hl, ByteArray.size_extract]
  omega
theorem digits_can {e0 : Nat} (he0 : e0 = digEndM s r.pos) (hp : r.pos < e0) (hes : e0 ≤ s.size) (hT : Has T r'.pos (s.extract r.pos e0).data.toList) (hpT : r'.pos ≤ T.size) (hst : r'.pos + (e0 - r.pos) < T.size → (clsM (bt T (r'.pos + (e0 - r.pos))) == 3) = false) :
    digEndM T r'.pos = r'.pos + (e0 - r.pos) ∧ T.extract r'.pos (r'.pos + (e0 - r.pos)) = s.extract r.pos e0 ∧ bt T r'.pos = bt s r.pos := by
  have hl := ext_list_len (s := s) (a := r.pos) hes
  refine ⟨run_can (P := fun b => clsM b == 3) hT hpT (fun j hj => ?_) (by rw [hl]) hst, hT.ext hpT hes, ?_⟩
  · obtain ⟨e1, e2⟩ := ext_bytes hes j hj
    rw [e1]
    exact runM_all (s := s) (f := fun i => clsM (bt s i) == 3) (p := r.pos) (by omega) (by rw [he0] at e2; exact e2)
  · have h0 := hT 0 (by rw [hl]; omega)
    rw [(ext_bytes hes 0 (by rw [hl]; omega)).1] at h0
    simpa using h0.2
theorem number_bk {t : Tok} (H : Hand T L r r' t y) (hst : r.start = r.pos) (h : numberM s r = .ok q) (hlt : r.pos < s.size) (hc3 : clsM (bt s r.pos) = 3) (hq : q.list = r.list ++ [t]) (hN : Nx T (r'.pos + (canL (lastK 15 r.list) t).length)) :
    bt T r'.pos = bt s r.pos ∧ Sim q (numberM T r') := by
  have h1 := runM_gt (f := fun i => clsM (bt s i) == 3) hlt (by simp [hc3])
  change r.pos < digEndM s r.pos ∧ digEndM s r.pos ≤ s.size at h1
  have hl := ext_list_len (s := s) (a := r.pos) h1.2
  have hT := H.has
  have hn := H.next
  cases hlo : (decide (digEndM s r.pos < s.size) && decide ((bt s (digEndM s r.pos)).toNat = 76)) with
  | false =>
    rw [numberM_short rfl hlo] at h
    split at h
    · cases h
    · rename_i c1
      split at h
      · cases h
      · rename_i c2
        cases h
        have htt : t = ⟨4, s.extract r.pos (digEndM s r.pos), r.start, r.line, r.start - r.ls⟩ := by simpa [putM] using hq.symm
        have hc : canL (lastK 15 r.list) t = (s.extract r.pos (digEndM s r.pos)).data.toList := by rw [htt]; simp [canL, tl]
        rw [hc] at hT hn hN
        rw [hl] at hN
        obtain ⟨k1, k2, k3⟩ := digits_can rfl h1.1 h1.2 hT.1.left hT.2 (fun hh => nx_dig hN hh)
        refine ⟨k3, ?_⟩
        have hlo' : (decide (r'.pos + (digEndM s r.pos - r.pos) < T.size) && decide ((bt T (r'.pos + (digEndM s r.pos - r.pos))).toNat = 76)) = false := by
          rcases hN with g | g
          · have : ¬(r'.pos + (digEndM s r.pos - r.pos) < T.size) := by omega
            simp [this]
          · rw [g]; simp
        have hwe : wordEndM T (r'.pos + (digEndM s r.pos - r.pos)) = r'.pos + (digEndM s r.pos - r.pos) := by
          have hlen := hT.1.left.len hT.2
          rw [hl] at hlen
          unfold wordEndM
          rcases Nat.lt_or_ge (r'.pos + (digEndM s r.pos - r.pos)) T.size with g | g
          · exact runM_no (nx_word hN g)
          · exact runM_end g
        have hsz : (s.extract r.pos (digEndM s r.pos)).size = digEndM s r.pos - r.pos := ext_size (by omega) h1.2
        rw [numberM_short k1 hlo', k2, k3, hwe, if_neg, if_neg c2]
        · refine ⟨_, rfl, bk_put H.bk ?_⟩
          show _ = (shoL 15 (r.list ++ [⟨4, s.extract r.pos (digEndM s r.pos), r.start, r.line, r.start - r.ls⟩])).length
          rw [← htt, hn, hl]
        · intro c; apply c1
          rw [Bool.or_eq_true] at c ⊢
          rcases c with c | c
          · exact .inl c
          · simp at c
  | true =>
    rw [numberM_long rfl hlo] at h
    simp only [Bool.and_eq_true, decide_eq_true_eq] at hlo
    split at h
    · cases h
    · rename_i c1
      split at h
      · cases h
      · rename_i c2
        cases h
        have htt : t = ⟨5, s.extract r.pos (digEndM s r.pos), r.start, r.line, r.start - r.ls⟩ := by simpa [putM] using hq.symm
        have hc : canL (lastK 15 r.list) t = (s.extract r.pos (digEndM s r.pos)).data.toList ++ [76] := by rw [htt]; simp [canL, tl]
        rw [hc] at hT hn hN
        rw [List.length_append, hl] at hN
        simp only [List.length_cons, List.length_nil, Nat.zero_add] at hN
        have hL76 := hT.1.left.right.head
        rw [hl] at hL76
        obtain ⟨k1, k2, k3⟩ := digits_can rfl h1.1 h1.2 hT.1.left.left hT.2 (fun _ => by rw [hL76.2]; decide)
        refine ⟨k3, ?_⟩
        have hlo' : (decide (r'.pos + (digEndM s r.pos - r.pos) < T.size) && decide ((bt T (r'.pos + (digEndM s r.pos - r.pos))).toNat = 76)) = true := by
          rw [hL76.2]; simp; exact hL76.1
        have hwe : wordEndM T (r'.pos + (digEndM s r.pos - r.pos) + 1) = r'.pos + (digEndM s r.pos - r.pos) + 1 := by
          unfold wordEndM
          rcases Nat.lt_or_ge (r'.pos + (digEndM s r.pos - r.pos) + 1) T.size with g | g
          · exact runM_no (nx_word (by rw [← Nat.add_assoc] at hN; exact hN) g)
          · exact runM_end g
        rw [numberM_long k1 hlo', k2, k3, hwe, if_neg, if_neg c2]
        · refine ⟨_, rfl, bk_put H.bk ?_⟩
          show _ = (shoL 15 (r.list ++ [⟨5, s.extract r.pos (digEndM s r.pos), r.start, r.line, r.start - r.ls⟩])).length
          rw [← htt, hn, List.length_append, hl]
          simp
          omega
        · intro c; apply c1
          rw [Bool.or_eq_true] at c ⊢
          rcases c with c | c
          · exact .inl c
          · simp at c
theorem op_can {en : Nat} (hen : en = opEndM s r.pos) (hp : r.pos < en) (hes : en ≤ s.size) (hT : Has T r'.pos (s.extract r.pos en).data.toList) (hpT : r'.pos ≤ T.size) (hN : Nx T (r'.pos + (en - r.pos))) :
    opEndM T r'.pos = r'.pos + (en - r.pos) ∧ T.extract r'.pos (r'.pos + (en - r.pos)) = s.extract r.pos en ∧ bt T r'.pos = bt s r.pos := by
  have hl := ext_list_len (s := s) (a := r.pos) hes
  have hlen := hT.len hpT
  rw [hl] at hlen
  have hb : ∀ j, j < en - r.pos → bt T (r'.pos + j) = bt s (r.pos + j) := fun j hj => by
    rw [(hT j (by rw [hl]; exact hj)).2, (ext_bytes hes j (by rw [hl]; exact hj)).1]
  refine ⟨?_, hT.ext hpT hes, by simpa using hb 0 (by omega)⟩
  unfold opEndM
  refine runM_uniq hlen (fun hlt => ?_) (en - r.pos) r'.pos rfl fun i h1 h2 => ?_
  · rcases hN with g | g
    · omega
    · rw [g, cls_blank]; rfl
  · obtain ⟨j, rfl⟩ : ∃ j, i = r'.pos + j := ⟨i - r'.pos, by omega⟩
    have hj : j < en - r.pos := by omega
    have g3 := runM_all (s := s) (f := fun i => clsM (bt s i) == 4 && !bcM (s.extract i s.size)) (p := r.pos) (i := r.pos + j) (by omega) (by change r.pos + j < opEndM s r.pos; omega)
    simp only [Bool.and_eq_true, Bool.not_eq_true', bcM_fol, Bool.or_eq_false_iff] at g3 ⊢
    rw [hb j hj]
    have key : ∀ b : UInt8, b ≠ 32 → fol s (r.pos + j) ⟨#[47, b]⟩ = false → fol T (r'.pos + j) ⟨#[47, b]⟩ = false := fun b hb32 hf => by
      by_cases hj1 : j + 1 < en - r.pos
      · rw [fol_two] at hf ⊢
        rw [hb j hj, show r'.pos + j + 1 = r'.pos + (j + 1) by omega, hb (j + 1) hj1]
        rw [show r.pos + j + 1 = r.pos + (j + 1) by omega] at hf
        have : r.pos + (j + 1) < s.size := by omega
        simp only [this, decide_true, Bool.true_and] at hf
        rw [hf]; simp
      · rw [fol_two, show r'.pos + j + 1 = r'.pos + (en - r.pos) by omega]
        rcases hN with g | g
        · have : ¬(r'.pos + (en - r.pos) < T.size) := by omega
          simp [this]
        · rw [g]; simp; intro _ _ h; exact hb32 h.symm
    exact ⟨g3.1, key 47 (by decide) g3.2.1, key 42 (by decide) g3.2.2⟩
theorem operator_bk {t : Tok} (H : Hand T L r r' t y) (hst : r.start = r.pos) (h : operatorM s r = .ok q) (hlt : r.pos < s.size) (hc4 : clsM (bt s r.pos) = 4) (hbc : bcM (s.extract r.pos s.size) = false) (hq : q.list = r.list ++ [t]) (hN : Nx T (r'.pos + (canL (lastK 15 r.list) t).length)) :
    bt T r'.pos = bt s r.pos ∧ r'.pos < opEndM T r'.pos ∧ Sim q (operatorM T r') := by
  have h1 := runM_gt (f := fun i => clsM (bt s i) == 4 && !bcM (s.extract i s.size)) hlt (by simp [hc4, hbc])
  change r.pos < opEndM s r.pos ∧ opEndM s r.pos ≤ s.size at h1
  have hl := ext_list_len (s := s) (a := r.pos) h1.2
  have hsz : (s.extract r.pos (opEndM s r.pos)).size = opEndM s r.pos - r.pos := ext_size (by omega) h1.2
  have hT := H.has
  have hn := H.next
  have htk : t.text = s.extract r.pos (opEndM s r.pos) ∧ (t.kind = 2 ∨ t.kind = 3) := by
    unfold operatorM at h
    simp only at h
    split at h
    · have := mark_tok h; rw [hq] at this
      have e := List.append_cancel_left this
      simp only [List.cons.injEq, and_true] at e
      rw [e]; exact ⟨rfl, .inr rfl⟩
    · have := named_eq (T := s) (r' := r) h rfl
      rw [this.1] at hq
      have e : t = ⟨2, s.extract r.start (opEndM s r.pos), r.start, r.line, r.start - r.ls⟩ := by simpa [putM] using hq.symm
      rw [e, hst]; exact ⟨rfl, .inl rfl⟩
  have hc : canL (lastK 15 r.list) t = (s.extract r.pos (opEndM s r.pos)).data.toList := by
    unfold canL tl
    rw [htk.1]
    rcases htk.2 with k | k <;> rw [k] <;> simp
  rw [hc] at hT hn hN
  rw [hl] at hN hn
  obtain ⟨k1, k2, k3⟩ := op_can rfl h1.1 h1.2 hT.1.left hT.2 hN
  refine ⟨k3, by omega, ?_⟩
  unfold operatorM at h ⊢
  simp only at h ⊢
  rw [k1, k2]
  split at h
  · rename_i c
    rw [if_pos c]
    exact mark_bk H.bk h (by rw [hq, hn, H.start, hsz])
  · rename_i c
    rw [if_neg c]
    obtain ⟨e1, e2⟩ := named_eq (T := T) (r' := r') (en' := r'.pos + (opEndM s r.pos - r.pos)) h (by rw [H.start, k2, hst])
    rw [e2]
    refine ⟨_, rfl, ?_⟩
    rw [e1]
    refine bk_put H.bk ?_
    rw [← e1, hq, hn]
theorem fol_has {p : Nat} {a b : UInt8} {f : List UInt8} (h : Has T p (a :: b :: f)) : fol T p ⟨#[a, b]⟩ = true := by
  have h1 := h.head
  have h2 := h.tail.head
  rw [fol_two, h1.2, h2.2]
  simp [h2.1]
theorem two_bytes (a b : UInt8) : (⟨#[a, b]⟩ : ByteArray).data.toList = [a, b] := rfl
theorem chr_first (c : UInt8) : ∃ b f, escB [39] [123] c = b :: f ∧ b ≠ 123 := by
  obtain ⟨n, rfl⟩ := fin_byte c
  have h := form_char n
  have hl := okForm_len h.1
  match he : escB [39] [123] (UInt8.ofNat n.val), hl, h.2 with
  | b :: f, _, h2 => exact ⟨b, f, rfl, by simpa using h2⟩
theorem char_bk {t : Tok} (H : Hand T L r r' t y) (h : charM s r = .ok q) (hb39 : bt s r.pos = 39) (hq : q.list = r.list ++ [t]) :
    bt T r'.pos = bt s r.pos ∧ Sim q (charM T r') := by
  have hT := H.has
  have hn := H.next
  unfold charM at h ⊢
  split at h
  · have := mark_tok h; rw [hq] at this
    have e := List.append_cancel_left this
    simp only [List.cons.injEq, and_true] at e
    have hc : canL (lastK 15 r.list) t = [39, 123] := by rw [e]; simp [canL, tl]
    rw [hc] at hT hn
    rw [fol_has hT.1, if_pos rfl]
    refine ⟨by rw [hb39]; exact hT.1.head.2, mark_bk H.bk h ?_⟩
    rw [hq, hn, H.start]; rfl
  · split at h
    · cases h
    · rename_i l p hch
      split at h
      · rename_i hl1
        cases h
        have e : t = ⟨6, bytesOf l, r.start, r.line, r.start - r.ls⟩ := by simpa [putM] using hq.symm
        have hc : canL (lastK 15 r.list) t = 39 :: (escL [39] [123] l ++ [39]) := by rw [e]; simp [canL, tl, bytesOf]
        rw [hc] at hT hn
        obtain ⟨c, rfl⟩ : ∃ c, l = [c] := by
          match l, hl1 with
          | [c], _ => exact ⟨c, rfl⟩
        obtain ⟨b, f, hbf, hne⟩ := chr_first c
        have hesc : escL [39] [123] [c] = b :: f := by simp [escL, hbf]
        have hnf : fol T r'.pos ⟨#[39, 123]⟩ = false := by
          rw [fol_two]
          have h2 := hT.1.left.tail
          rw [hesc] at h2
          rw [(Has.head h2).2]
          simp; intro _ _; exact hne
        have hr := chr_read (st := r'.start) hT.1.left.tail
        refine ⟨by rw [hb39]; exact hT.1.head.2, ?_⟩
        rw [hnf, if_neg (by simp), hr]
        refine ⟨_, if_pos rfl, bk_put H.bk ?_⟩
        show _ = (shoL 15 (r.list ++ [⟨6, bytesOf [c], r.start, r.line, r.start - r.ls⟩])).length
        rw [← e, hn]
        simp
        omega
      · cases h
theorem plain_bk {t : Tok} (H : Hand T L r r' t y) (h : plainM s r = .ok q) (hb34 : bt s r.pos = 34) (hq : q.list = r.list ++ [t]) :
    bt T r'.pos = bt s r.pos ∧ Sim q (plainM T r') := by
  have hT := H.has
  have hn := H.next
  unfold plainM at h ⊢
  split at h
  · cases h
  · rename_i l p hch
    cases h
    have e : t = ⟨7, bytesOf l, r.start, r.line, r.start - r.ls⟩ := by simpa [putM] using hq.symm
    have hc : canL (lastK 15 r.list) t = 34 :: (escL [34] [] l ++ [34]) := by rw [e]; simp [canL, tl, bytesOf]
    rw [hc] at hT hn
    have hr := str_read (st := r'.start) hT.1.left.tail
    refine ⟨by rw [hb34]; exact hT.1.head.2, ?_⟩
    rw [hr]
    refine ⟨_, rfl, bk_put H.bk ?_⟩
    show _ = (shoL 15 (r.list ++ [⟨7, bytesOf l, r.start, r.line, r.start - r.ls⟩])).length
    rw [← e, hn]
    simp
    omega
theorem splice_bk {t : Tok} (H : Hand T L r r' t y) (h : spliceM s r = .ok q) (hb36 : bt s r.pos = 36) (hq : q.list = r.list ++ [t]) :
    bt T r'.pos = bt s r.pos ∧ Sim q (spliceM T r') := by
  have hT := H.has
  have hn := H.next
  unfold spliceM at h ⊢
  split at h
  · have := mark_tok h; rw [hq] at this
    have e := List.append_cancel_left this
    simp only [List.cons.injEq, and_true] at e
    have hc : canL (lastK 15 r.list) t = [36, 123] := by rw [e]; simp [canL, tl]
    rw [hc] at hT hn
    rw [fol_has hT.1, if_pos rfl]
    refine ⟨by rw [hb36]; exact hT.1.head.2, mark_bk H.bk h ?_⟩
    rw [hq, hn, H.start]; rfl
  · cases h
end
end Go.Proofs.YtcdidmohgcegmaaDoor
/- Plain facts of the reader's model: the kinds of the first and the last token that are put, and how many brackets a token closes. No condition on memory. -/
namespace Go.Proofs.YtcdidmohgcegmaaDoor

theorem nc39 : closesM ⟨#[39, 123]⟩ = false := by unfold closesM; simp only [Go.Lib.toList_data]; rfl
theorem nc36 : closesM ⟨#[36, 123]⟩ = false := by unfold closesM; simp only [Go.Lib.toList_data]; rfl
/-- One plain token. -/
def One7 (r q : Rd) : Prop := ∃ t, q.list = r.list ++ [t] ∧ t.kind ≤ 7 ∧ r.opn.length ≤ q.opn.length
section
variable {s : ByteArray} {r q : Rd}
theorem one7_put {kind en : Nat} {text : ByteArray} (h : kind ≤ 7) : One7 r (putM r kind text en) := ⟨_, rfl, h, Nat.le_refl _⟩
theorem one7_named {kind en : Nat} (h : putNamedM s r kind en = .ok q) (h1 : kind ≤ 7) : One7 r q := by
  unfold putNamedM at h
  split at h
  · cases h
  · cases h; exact one7_put h1
theorem closes_one {m : ByteArray} (h : closesM m = true) : m.size = 1 ∧ (bt m 0 = 41 ∨ bt m 0 = 93 ∨ bt m 0 = 125) := by
  have key : ∀ b : UInt8, (m.toList == [b]) = true → m.size = 1 ∧ bt m 0 = b := fun b hb => by
    have e : m.toList = [b] := by simpa using hb
    rw [Go.Lib.toList_data] at e
    refine ⟨?_, ?_⟩
    · have := congrArg List.length e; simpa using this
    · unfold bt; rw [e]; rfl
  unfold closesM at h
  simp only [Bool.or_eq_true] at h
  rcases h with (h | h) | h
  · exact ⟨(key _ h).1, .inl (key _ h).2⟩
  · exact ⟨(key _ h).1, .inr (.inl (key _ h).2)⟩
  · exact ⟨(key _ h).1, .inr (.inr (key _ h).2)⟩
/-- A mark closes one bracket at most, and only a closing one does. -/
theorem mark_opn {m : ByteArray} (h : putMarkM r m = .ok q) : r.opn.length ≤ q.opn.length + 1 ∧ (closesM m = false → r.opn.length ≤ q.opn.length) := by
  unfold putMarkM at h
  split at h
  · split at h
    · rename_i c2
      split at h
      · cases h
      · split at h
        · cases h
          refine ⟨by simp [putM]; omega, fun hc => ?_⟩
          rw [hc] at c2; cases c2
        · cases h
    · cases h; exact ⟨Nat.le_succ _, fun _ => Nat.le_refl _⟩
  · split at h
    · cases h
    · cases h
      exact ⟨by simp [putM]; omega, fun _ => by simp [putM]⟩
theorem one7_mark {m : ByteArray} (h : putMarkM r m = .ok q) (hc : closesM m = false) : One7 r q := ⟨_, mark_tok h, show (3 : Nat) ≤ 7 by decide, (mark_opn h).2 hc⟩
theorem one7_number (h : numberM s r = .ok q) : One7 r q := by
  cases hl : (decide (digEndM s r.pos < s.size) && decide ((bt s (digEndM s r.pos)).toNat = 76)) with
  | false =>
    rw [numberM_short rfl hl] at h
    split at h
    · cases h
    · split at h
      · cases h
      · cases h; exact one7_put (by decide)
  | true =>
    rw [numberM_long rfl hl] at h
    split at h
    · cases h
    · split at h
      · cases h
      · cases h; exact one7_put (by decide)
theorem sign_close {m : ByteArray} (h : signMarkM m = true) : closesM m = false := by
  cases hc : closesM m with
  | false => rfl
  | true =>
    obtain ⟨h1, h2⟩ := closes_one hc
    have e : m.data.toList = [bt m 0] := by
      have hl : m.data.toList.length = 1 := by simpa using h1
      have h0 := bt_data m 0 (by omega)
      match hm : m.data.toList, hl with
      | [b], _ => rw [hm] at h0; simpa using h0
    unfold signMarkM at h
    rw [Go.Lib.toList_data, e] at h
    rcases h2 with h2 | h2 | h2 <;> rw [h2] at h <;> simp at h
theorem one7_operator (h : operatorM s r = .ok q) : One7 r q := by
  unfold operatorM at h
  simp only at h
  split at h
  · rename_i c; exact one7_mark h (sign_close c)
  · exact one7_named h (by decide)
theorem one7_char (h : charM s r = .ok q) : One7 r q := by
  unfold charM at h
  split at h
  · exact one7_mark h nc39
  · split at h
    · cases h
    · split at h
      · cases h; exact one7_put (by decide)
      · cases h
theorem one7_plain (h : plainM s r = .ok q) : One7 r q := by
  unfold plainM at h
  split at h
  · cases h
  · cases h; exact one7_put (by decide)
theorem one7_splice (h : spliceM s r = .ok q) : One7 r q := by
  unfold spliceM at h
  split at h
  · exact one7_mark h nc36
  · cases h
end
/-- What a token of the model does: the kinds at both ends, and the brackets. -/
structure Kinds (s : ByteArray) (r q : Rd) : Prop where
  put : ∃ t x, q.list = r.list ++ t :: x ∧ t.kind ≤ 8 ∧ (∀ p, lastK p (t :: x) ≤ 7 ∨ lastK p (t :: x) = 10)
  one : r.opn.length ≤ q.opn.length + 1
  opn : clsM (bt s r.pos) ≠ 5 → r.opn.length ≤ q.opn.length
def TokKinds (tok : Rd → Except Flt Rd) (s : ByteArray) : Prop := ∀ (r q : Rd), tok r = .ok q → Inv 0 s r → Tb s r.pos → Kinds s r q
theorem One7.kinds {s : ByteArray} {r q : Rd} (h : One7 r q) : Kinds s r q := by
  obtain ⟨t, h1, h2, h3⟩ := h
  exact ⟨⟨t, [], h1, by omega, fun p => .inl h2⟩, by omega, fun _ => h3⟩
section
variable {s : ByteArray} {tok : Rd → Except Flt Rd}
theorem spliced_opn (hT : TokInv tok s) (hK : TokKinds tok s) {outer : Nat} : ∀ (k : Nat) (r q : Rd), splicedK tok s outer k r = .ok q → Inv 0 s r → outer ≤ r.opn.length → outer ≤ q.opn.length
  | 0, _, _, h, _, _ => by cases h
  | k + 1, r, q, h, hI, ho => by
    unfold splicedK at h
    split at h
    · rename_i c0
      split at h
      · cases h
      · cases h
      · rename_i z hz
        have g1 := skipM_inv hz hI
        have g1' := g1.2.2.2.2 rfl
        split at h
        · cases h
        · rename_i z2 hz2
          have g3 := hT _ _ hz2 g1.1 g1'.1 g1'.2.1 g1'.2.2.1
          have g4 := (hK _ _ hz2 g1.1 (skip_fin _ _ _ hz)).one
          rw [g1.2.2.1] at g4
          exact spliced_opn hT hK k _ _ h g3.1 (by omega)
    · cases h; exact ho
theorem expr_opn (hT : TokInv tok s) (hK : TokKinds tok s) {r q : Rd} (h : exprM tok s r = .ok q) (hI : Inv 1 s r) (hp : r.pos < s.size) : r.opn.length ≤ q.opn.length := by
  unfold exprM at h
  split at h
  · rename_i c
    have g2 := fol_len c
    have hz : (⟨#[36, 123]⟩ : ByteArray).size = 2 := rfl
    unfold splicedM at h
    split at h
    · cases h
    · rename_i z hz'
      have g1 := putMarkM_step (s := s) hz' rfl (by decide) (by show r.pos + _ ≤ _; omega) hI.opn
      have g3 := (mark_opn hz').2 nc36
      exact spliced_opn hT hK _ _ _ h (g1.1.inv (hI.start r.pos)) g3
  · simp only at h
    split at h
    · cases h
    · unfold putNamedM at h
      split at h
      · cases h
      · cases h; exact Nat.le_refl _
theorem part_opn {r q : Rd} {b : Bool} (h : partM s r = .ok (b, q)) : q.opn = r.opn := by
  unfold partM at h
  split at h
  · cases h
  · cases h; rfl
theorem interp_opn (hT : TokInv tok s) (hK : TokKinds tok s) : ∀ (k : Nat) (r q : Rd), interpK tok s k r = .ok q → Inv 0 s r → r.opn.length ≤ q.opn.length
  | 0, _, _, h, _ => by cases h
  | k + 1, r, q, h, hI => by
    unfold interpK at h
    split at h
    · cases h
    · rename_i z hz
      cases h
      show r.opn.length ≤ z.opn.length
      rw [part_opn hz]; exact Nat.le_refl _
    · rename_i z hz
      have g1 := partM_inv hz hI
      split at h
      · cases h
      · rename_i z2 hz2
        have g2 := exprM_inv hT hz2 g1.1 g1.2.2
        have g3 := expr_opn hT hK hz2 g1.1 g1.2.2
        have g4 := interp_opn hT hK k _ _ h g2.1
        rw [part_opn hz] at g3
        omega
theorem word_kinds (hT : TokInv tok s) (hA : TokAdd tok s) (hK : TokKinds tok s) {r q : Rd} (h : wordM tok s r = .ok q) (hI : Inv 0 s r) (hp : r.pos < s.size) (hc : clsM (bt s r.pos) = 2) : Kinds s r q := by
  have g0 := runM_gt (f := fun i => inWordM (bt s i)) hp (by simp [inWordM, hc])
  change r.pos < wordEndM s r.pos ∧ wordEndM s r.pos ≤ s.size at g0
  unfold wordM at h
  simp only at h
  split at h
  · rename_i c
    refine (one7_mark h ?_).kinds
    have e : (s.extract r.pos (wordEndM s r.pos)).toList = [95] := by simpa using c
    unfold closesM
    rw [e]; rfl
  · split at h
    · exact (one7_named h (by decide)).kinds
    · split at h
      · rename_i hf
        have h2 := fol_len hf
        have hz1 : (⟨#[34]⟩ : ByteArray).size = 1 := rfl
        split at h
        · cases h
        · rename_i z hz
          have z1 := putNamedM_step hz g0.1 g0.2 hI.opn
          have z4 : Inv 0 s z := z1.1.inv hI.more
          have z5 : Inv 0 s { z with pos := wordEndM s r.pos + 1 } := ⟨by show wordEndM s r.pos + 1 ≤ _; omega, by show z.line ≤ wordEndM s r.pos + 1; have := z4.line; have := z1.2; omega, by show z.ls ≤ wordEndM s r.pos + 1; have := z4.ls; have := z1.2; omega, by show z.list.length ≤ 2 * (wordEndM s r.pos + 1) + 0; have := z4.len; have := z1.2; omega, z4.opn⟩
          obtain ⟨y, b, hy, _, hb, _⟩ := interp_add hT hA _ _ _ h z5
          have ho := interp_opn hT hK _ _ _ h z5
          have e := (named_eq (T := s) (r' := r) hz rfl).1
          have ho2 : z.opn = r.opn := by rw [e]; rfl
          have ho3 : r.opn.length ≤ q.opn.length := by
            have : ({ z with pos := wordEndM s r.pos + 1 } : Rd).opn = r.opn := ho2
            rw [this] at ho; exact ho
          refine ⟨⟨⟨8, s.extract r.start (wordEndM s r.pos), r.start, r.line, r.start - r.ls⟩, y ++ [b], ?_, Nat.le_refl _, fun p => .inr ?_⟩, by omega, fun _ => ho3⟩
          · rw [hy]
            show z.list ++ _ = _
            rw [e]
            simp [putM]
          · rw [show (⟨8, s.extract r.start (wordEndM s r.pos), r.start, r.line, r.start - r.ls⟩ :: (y ++ [b]) : List Tok) = (⟨8, s.extract r.start (wordEndM s r.pos), r.start, r.line, r.start - r.ls⟩ :: y) ++ [b] by simp, lastK_append]
            exact hb
      · exact (one7_named h (by decide)).kinds
theorem tokenF_kinds (hT : TokInv tok s) (hA : TokAdd tok s) (hK : TokKinds tok s) : TokKinds (tokenF tok s) s := by
  intro r q h hI hB
  have key : ∀ {z : Rd}, Kinds s { r with start := r.pos } z → Kinds s r z := fun h1 => ⟨h1.put, h1.one, h1.opn⟩
  unfold tokenF at h
  simp only at h
  split at h
  · rename_i c
    exact key (word_kinds (r := { r with start := r.pos }) hT hA hK h (hI.start _) hB.lt c)
  · split at h
    · exact key (one7_number h).kinds
    · split at h
      · exact key (one7_operator h).kinds
      · split at h
        · rename_i c5
          exact ⟨⟨_, [], mark_tok (r := { r with start := r.pos }) h, show (3 : Nat) ≤ 8 by decide, fun p => .inl (show (3 : Nat) ≤ 7 by decide)⟩, (mark_opn (r := { r with start := r.pos }) h).1, fun hc => absurd c5 hc⟩
        · split at h
          · exact key (one7_char h).kinds
          · split at h
            · exact key (one7_plain h).kinds
            · split at h
              · exact key (one7_splice h).kinds
              · cases h
end
theorem tokenM_kinds (s : ByteArray) : ∀ n, TokKinds (tokenM s n) s
  | 0 => fun _ _ h => by cases h
  | n + 1 => tokenF_kinds (tokenM_inv s n) (tokenM_add s n) (tokenM_kinds s n)
end Go.Proofs.YtcdidmohgcegmaaDoor
/- The reader's model over the canonical text of what it read: interpolated strings and whole texts. No condition on memory. -/
namespace Go.Proofs.YtcdidmohgcegmaaDoor

/-- Behind a token of the model: its canonical text is read as it was. L = q.list ++ y. -/
def TokBk (s T : ByteArray) (L : List Tok) (tok tok' : Rd → Except Flt Rd) (m : Nat) : Prop :=
  ∀ (r q r' : Rd) (t : Tok) (x y : List Tok), tok r = .ok q → Inv 0 s r → Tb s r.pos → q.list = r.list ++ t :: x → L = q.list ++ y → lastK 15 r.list ≠ 8 → lastK 15 r.list ≠ 9 → Bk (sepL (lastK 15 r.list) t).length r r' →
    (clsM (bt s r.pos) = 5 ∨ ∀ u z, y = u :: z → u.kind ≠ 9) → T.size < m + r'.pos → Inv 0 T r' → Tb T r'.pos ∧ Sim q (tok' r')

theorem cls_single : ∀ c : Fin 256, (clsM (UInt8.ofNat c.val) = 6 → c.val = 39) ∧ (clsM (UInt8.ofNat c.val) = 7 → c.val = 34) ∧ (clsM (UInt8.ofNat c.val) = 8 → c.val = 36) := by decide +kernel
theorem cls6 {b : UInt8} (h : clsM b = 6) : b = 39 := by obtain ⟨n, rfl⟩ := fin_byte b; have := (cls_single n).1 h; rw [this]; rfl
theorem cls7 {b : UInt8} (h : clsM b = 7) : b = 34 := by obtain ⟨n, rfl⟩ := fin_byte b; have := (cls_single n).2.1 h; rw [this]; rfl
theorem cls8 {b : UInt8} (h : clsM b = 8) : b = 36 := by obtain ⟨n, rfl⟩ := fin_byte b; have := (cls_single n).2.2 h; rw [this]; rfl

section
variable {s T : ByteArray} {L : List Tok} {tok tok' : Rd → Except Flt Rd} {m : Nat}
theorem tb_of {n p : Nat} {k : Nat} (h : Tb s n) (hb : bt T p = bt s n) (hp : p < T.size) (hc : clsM (bt s n) = k) (hk : k ≠ 4) : Tb T p := by
  have h47 : bt s n ≠ 47 := fun e => by rw [e] at hc; exact hk (by rw [← hc]; decide)
  have hf : ∀ b : UInt8, fol T p ⟨#[47, b]⟩ = false := fun b => by
    rw [fol_two, hb]
    have : (bt s n == 47) = false := by simpa using h47
    simp [this]
  refine ⟨hp, ?_, by rw [hb]; exact h.cls, hf _, hf _⟩
  have := h.nl
  rw [fol_one] at this ⊢
  rw [hb]
  have hlt := h.lt
  simp only [hlt, decide_true, Bool.true_and] at this
  rw [this]; simp
theorem sim_skip {k d : Nat} {r' : Rd} {f : List UInt8} (hd : f = [] ∧ d = 0 ∨ f = [32] ∧ d = 1) (hT : Has T r'.pos f) (hB : Tb T (r'.pos + d)) (hk : 2 ≤ k) :
    skipK T k r' = .ok (true, { r' with pos := r'.pos + d }) := by
  obtain ⟨j, rfl⟩ : ∃ j, k = j + 2 := ⟨k - 2, by omega⟩
  rcases hd with ⟨rfl, rfl⟩ | ⟨rfl, rfl⟩
  · exact skip_tb hB
  · have h1 := hT.head
    have e1 : fol T r'.pos ⟨#[10]⟩ = false := by rw [fol_one, h1.2]; simp
    have e2 : clsM (bt T r'.pos) = 1 := by rw [h1.2]; decide
    rw [skipK, if_pos h1.1, e1, if_neg (by simp), if_pos e2]
    exact skip_tb (r := { r' with pos := r'.pos + 1 }) hB
theorem sep_cases (p : Nat) (t : Tok) : sepL p t = [] ∧ (sepL p t).length = 0 ∨ sepL p t = [32] ∧ (sepL p t).length = 1 := by
  unfold sepL
  split
  · exact .inl ⟨rfl, rfl⟩
  · exact .inr ⟨rfl, rfl⟩
theorem Can.sep {a y : List Tok} {t : Tok} (h : Can T L) (hL : L = a ++ t :: y) : Has T (shoL 15 a).length (sepL (lastK 15 a) t) := by
  have h1 := h.has
  rw [hL, shoL_append] at h1
  have h2 := h1.right
  simp only [shoL] at h2
  rw [List.append_assoc] at h2
  have h3 := h2.left
  rwa [Nat.zero_add] at h3

theorem spliced_bk (hC : Can T L) (hT : TokInv tok s) (hT' : TokInv tok' T) (hA : TokAdd tok s) (hK : TokKinds tok s) (hB : TokBk s T L tok tok' m) {outer : Nat} : ∀ (k k' : Nat) (r q r' : Rd) (y : List Tok), splicedK tok s outer k r = .ok q → Inv 0 s r → L = q.list ++ y → lastK 15 r.list ≠ 8 → lastK 15 r.list ≠ 9 → Bk 0 r r' → Inv 0 T r' →
    T.size < m + r'.pos → T.size < k' + r'.pos → Sim q (splicedK tok' T outer k' r')
  | 0, _, _, _, _, _, h, _, _, _, _, _, _, _, _ => by cases h
  | k + 1, k', r, q, r', y, h, hI, hL, h8, h9, B, hI', hm, hk => by
    have hpT := hI'.pos
    obtain ⟨j, rfl⟩ : ∃ j, k' = j + 1 := ⟨k' - 1, by omega⟩
    unfold splicedK at h ⊢
    rw [B.len]
    split at h
    · rename_i c0
      rw [if_pos c0]
      split at h
      · cases h
      · cases h
      · rename_i z hz
        have g1 := skipM_inv hz hI
        have g1' := g1.2.2.2.2 rfl
        have g2 := skip_fin _ _ _ hz
        split at h
        · cases h
        · rename_i z2 hz2
          have g3 := hT _ _ hz2 g1.1 g1'.1 g1'.2.1 g1'.2.2.1
          have gk := hK _ _ hz2 g1.1 g2
          obtain ⟨t, x, hx, ht8, hlast⟩ := gk.put
          have hzl : z.list = r.list := g1.2.2.2.1
          obtain ⟨x2, hx2, _⟩ := spliced_add hT hA _ _ _ h g3.1
          have hL2 : L = z2.list ++ (x2 ++ y) := by rw [hL, hx2, List.append_assoc]
          have hLt : L = r.list ++ t :: (x ++ (x2 ++ y)) := by rw [hL2, hx, hzl]; simp
          have hcond : clsM (bt s z.pos) = 5 ∨ ∀ u w, x2 ++ y = u :: w → u.kind ≠ 9 := by
            by_cases c5 : clsM (bt s z.pos) = 5
            · exact .inl c5
            · refine .inr fun u w hu => ?_
              have ho2 := gk.opn c5
              rw [g1.2.2.1] at ho2
              cases k with
              | zero => cases h
              | succ n =>
                have h' := h
                unfold splicedK at h'
                rw [if_pos (by omega)] at h'
                split at h'
                · cases h'
                · cases h'
                · rename_i v hv
                  have v1 := skipM_inv hv g3.1
                  have v1' := v1.2.2.2.2 rfl
                  split at h'
                  · cases h'
                  · rename_i v2 hv2
                    have v3 := hT _ _ hv2 v1.1 v1'.1 v1'.2.1 v1'.2.2.1
                    obtain ⟨t', x', hx', ht8', _⟩ := (hK _ _ hv2 v1.1 (skip_fin _ _ _ hv)).put
                    obtain ⟨x3, hx3, _⟩ := spliced_add hT hA _ _ _ h' v3.1
                    have e : z2.list ++ x2 = z2.list ++ (t' :: (x' ++ x3)) := by rw [← hx2, hx3, hx', v1.2.2.2.1]; simp
                    have e2 := List.append_cancel_left e
                    rw [e2] at hu
                    simp only [List.cons_append, List.cons.injEq] at hu
                    rw [← hu.1]; omega
          have hs := hC.sep hLt
          have hpos : r'.pos = (shoL 15 r.list).length := by rw [B.pos]; rfl
          rw [← hpos] at hs
          have hle := (hC.at hLt).2
          rw [← hpos] at hle
          have hI1 : Inv 0 T { r' with pos := r'.pos + (sepL (lastK 15 r.list) t).length } := ⟨hle, by show r'.line ≤ r'.pos + _; have := hI'.line; omega, by show r'.ls ≤ r'.pos + _; have := hI'.ls; omega, by show r'.list.length ≤ 2 * (r'.pos + _) + 0; have := hI'.len; omega, hI'.opn⟩
          have B1 : Bk (sepL (lastK 15 r.list) t).length z { r' with pos := r'.pos + (sepL (lastK 15 r.list) t).length } := ⟨by show r'.pos + _ = _; rw [B.pos, hzl]; omega, by rw [g1.2.2.1]; exact B.opn, by rw [hzl]; exact B.list⟩
          obtain ⟨hTb, z2', hz2', B2⟩ := hB z z2 _ t x (x2 ++ y) hz2 g1.1 g2 hx hL2 (by rw [hzl]; exact h8) (by rw [hzl]; exact h9) (by rw [hzl]; exact B1) hcond (by show T.size < m + (r'.pos + _); omega) hI1
          have hsk := sim_skip (k := T.size + 1 - r'.pos) (sep_cases (lastK 15 r.list) t) hs hTb (by have := hTb.lt; simp at this; omega)
          have hgt := hT' _ _ hz2' hI1 hTb.lt hTb.c1 hTb.c2
          unfold skipM
          rw [hsk]
          simp only
          rw [hz2']
          have hlk : lastK 15 z2.list = lastK (lastK 15 r.list) (t :: x) := by rw [hx, hzl, lastK_append]
          have hl2 := hlast (lastK 15 r.list)
          have hgt2 : r'.pos < z2'.pos := by have := hgt.2; simp at this; omega
          exact spliced_bk hC hT hT' hA hK hB k j z2 q z2' y h g3.1 hL (by rw [hlk]; omega) (by rw [hlk]; omega) B2 hgt.1 (by omega) (by omega)
    · rename_i c0
      rw [if_neg c0]
      cases h
      exact ⟨_, rfl, B⟩

/-- A Part of the canonical text. -/
theorem part_bk (hC : Can T L) {r q r' : Rd} {b : Bool} {t u : Tok} {y : List Tok} (h : partM s r = .ok (b, q)) (hq : q.list = r.list ++ [t]) (hL : L = r.list ++ t :: u :: y) (hu : ∃ f, canL 9 u = (if b = true then 36 else 34) :: f) (B : Bk 0 r r') :
    ∃ q', partM T r' = .ok (b, q') ∧ Bk 0 q q' := by
  have hT := hC.at hL
  have hn := sho_snoc r.list t
  have hpos : r'.pos = (shoL 15 r.list).length := by rw [B.pos]; rfl
  unfold partM at h ⊢
  split at h
  · cases h
  · rename_i l p hch
    have e : t = ⟨9, bytesOf l, r.pos, r.line, r.pos - r.ls⟩ := by cases h; simpa [putM] using hq.symm
    have hs0 : sepL (lastK 15 r.list) t = [] := by unfold sepL; rw [if_pos]; right; right; right; rw [e]
    have hc : canL (lastK 15 r.list) t = partL (lastK 15 r.list == 0 || lastK 15 r.list == 1) l := by rw [e]; simp [canL, tl, bytesOf]
    have ht9 : t.kind = 9 := by rw [e]
    rw [hs0, hc, List.length_nil, Nat.add_zero, ← hpos] at hT
    rw [hs0, hc, List.length_nil, Nat.add_zero, ← hpos] at hn
    obtain ⟨f, hf⟩ := hu
    have h2 := hT.1.right
    have hsu : sepL t.kind u = [] := by unfold sepL; rw [if_pos]; right; right; left; exact ht9
    rw [shoL, hsu, List.nil_append, ht9, hf, List.cons_append] at h2
    have h3 := h2.head
    have hr := prt_read (st := r'.pos) hT.1.left h3.1 (by rw [h3.2]; cases b <;> simp)
    rw [hr]
    cases h
    refine ⟨putM { r' with start := r'.pos } 9 (bytesOf l) (r'.pos + (partL (lastK 15 r.list == 0 || lastK 15 r.list == 1) l).length), ?_, ?_⟩
    · simp only
      rw [h3.2]
      cases hd : decide ((bt s p).toNat = 36) <;> rfl
    · refine bk_put (r := { r with start := r.pos }) (r' := { r' with start := r'.pos }) (d := 0) ⟨B.pos, B.opn, B.list⟩ ?_
      rw [← hn, ← hq]
end
end Go.Proofs.YtcdidmohgcegmaaDoor
/- The reader's model over the canonical text of what it read: words, tokens, the whole list. No condition on memory. -/
namespace Go.Proofs.YtcdidmohgcegmaaDoor

theorem part_byte : ∀ c : Fin 256, inWordM (UInt8.ofNat c.val) = false → inWordM ((escB [34, 36] [] (UInt8.ofNat c.val)).getD 0 0) = false := by decide +kernel
theorem part_first2 (c : UInt8) (l : List UInt8) : ∃ b f, partL true (c :: l) = b :: f ∧ inWordM b = false := by
  cases h : inWordM c with
  | true =>
    rw [partL, h]
    exact ⟨92, _, rfl, by decide⟩
  | false =>
    rw [partL, h]
    obtain ⟨n, rfl⟩ := fin_byte c
    have h1 := part_byte n h
    have h2 := okForm_len (form_part n)
    show ∃ b f, escL [34, 36] [] (UInt8.ofNat n.val :: l) = b :: f ∧ inWordM b = false
    unfold escL
    rw [List.flatMap_cons]
    match he : escB [34, 36] [] (UInt8.ofNat n.val), h2 with
    | b :: f, _ =>
      rw [he] at h1
      exact ⟨b, _, rfl, by simpa using h1⟩

section
variable {s T : ByteArray} {L : List Tok} {tok tok' : Rd → Except Flt Rd} {m : Nat}
theorem expr_first (hT : TokInv tok s) (hA : TokAdd tok s) {r q : Rd} (h : exprM tok s r = .ok q) (hI : Inv 1 s r) (hp : r.pos < s.size) : ∃ t x f, q.list = r.list ++ t :: x ∧ canL 9 t = 36 :: f := by
  unfold exprM at h
  split at h
  · rename_i c
    have g2 := fol_len c
    have hz : (⟨#[36, 123]⟩ : ByteArray).size = 2 := rfl
    unfold splicedM at h
    split at h
    · cases h
    · rename_i z hz'
      have g1 := putMarkM_step (s := s) hz' rfl (by decide) (by show r.pos + _ ≤ _; omega) hI.opn
      obtain ⟨x, hx, _⟩ := spliced_add hT hA _ _ _ h (g1.1.inv (hI.start r.pos))
      have hm := mark_tok hz'
      refine ⟨_, x, [123], by rw [hx, hm, List.append_assoc]; rfl, by simp [canL, tl]⟩
  · simp only at h
    split at h
    · cases h
    · have e := (named_eq (T := s) (r' := { r with start := r.pos + 1 }) h rfl).1
      rw [e]
      refine ⟨_, [], (s.extract (r.pos + 1) (wordEndM s (r.pos + 1))).data.toList, rfl, ?_⟩
      unfold canL
      rw [if_pos (by show (if _ then 1 else 0) = 0 ∨ (if _ then 1 else 0) = 1; split <;> simp), if_pos rfl]
      rfl
theorem part_list {r q : Rd} {b : Bool} (h : partM s r = .ok (b, q)) : ∃ u, q.list = r.list ++ [u] ∧ u.kind = 9 := by
  unfold partM at h
  split at h
  · cases h
  · cases h; exact ⟨_, rfl, rfl⟩
theorem interp_head (hT : TokInv tok s) (hA : TokAdd tok s) {k : Nat} {r q : Rd} (h : interpK tok s k r = .ok q) (hI : Inv 0 s r) :
    ∃ u v w c f, q.list = r.list ++ u :: v :: w ∧ u.kind = 9 ∧ canL 9 v = c :: f ∧ inWordM c = false := by
  cases k with
  | zero => cases h
  | succ k =>
    unfold interpK at h
    split at h
    · cases h
    · rename_i z hz
      obtain ⟨u, hu, hk⟩ := part_list hz
      cases h
      refine ⟨u, ⟨10, ⟨#[]⟩, z.pos, z.line, z.pos - z.ls⟩, [], 34, [], by simp [putM, hu], hk, by simp [canL], by decide⟩
    · rename_i z hz
      obtain ⟨u, hu, hk⟩ := part_list hz
      have g1 := partM_inv hz hI
      split at h
      · cases h
      · rename_i z2 hz2
        have g2 := exprM_inv hT hz2 g1.1 g1.2.2
        obtain ⟨t, x, f, hx, hf⟩ := expr_first hT hA hz2 g1.1 g1.2.2
        obtain ⟨y, b, hy, _⟩ := interp_add hT hA _ _ _ h g2.1
        exact ⟨u, t, x ++ (y ++ [b]), 36, f, by rw [hy, hx, hu]; simp, hk, hf, by decide⟩

/-- Behind the name of an expression stands no byte of a word. -/
theorem name_end (hC : Can T L) {a w : List Tok} {t u v : Tok} {c : UInt8} {f : List UInt8} (hL : L = a ++ t :: u :: v :: w) (ht : t.kind = 0 ∨ t.kind = 1) (hu : u.kind = 9) (hv : canL 9 v = c :: f) (hc : inWordM c = false) :
    inWordM (bt T ((shoL 15 a).length + (sepL (lastK 15 a) t).length + (canL (lastK 15 a) t).length)) = false := by
  have h := (hC.at hL).1.right
  have e1 : sepL t.kind u = [] := by unfold sepL; rw [if_pos]; right; right; right; exact hu
  have e2 : canL t.kind u = partL true (tl u) := by
    unfold canL
    rw [hu]
    have : (t.kind == 0 || t.kind == 1) = true := by rcases ht with k | k <;> rw [k] <;> rfl
    rw [this]; simp
  have e3 : sepL u.kind v = [] := by unfold sepL; rw [if_pos]; right; right; left; exact hu
  simp only [shoL, e1, e2, e3, hu, hv, List.nil_append] at h
  cases hl : tl u with
  | nil =>
    rw [hl] at h
    simp only [partL, List.nil_append, List.cons_append] at h
    rw [(Has.head h).2]; exact hc
  | cons d l =>
    obtain ⟨b, g, hb, hw⟩ := part_first2 d l
    rw [hl, hb] at h
    rw [(Has.head h).2]; exact hw

theorem expr_bk (hC : Can T L) (hT : TokInv tok s) (hT' : TokInv tok' T) (hA : TokAdd tok s) (hK : TokKinds tok s) (hB : TokBk s T L tok tok' m) {r q r' : Rd} {u v : Tok} {w : List Tok} {c : UInt8} {f : List UInt8}
    (h : exprM tok s r = .ok q) (hI : Inv 1 s r) (hp : r.pos < s.size) (hL : L = q.list ++ u :: v :: w) (hu : u.kind = 9) (hv : canL 9 v = c :: f) (hc : inWordM c = false)
    (h9 : lastK 15 r.list = 9) (B : Bk 0 r r') (hI' : Inv 1 T r') (hm : T.size < m + r'.pos) : Sim q (exprM tok' T r') := by
  have hpos : r'.pos = (shoL 15 r.list).length := by rw [B.pos]; rfl
  unfold exprM at h ⊢
  split at h
  · rename_i cc
    have g2 := fol_len cc
    have hz : (⟨#[36, 123]⟩ : ByteArray).size = 2 := rfl
    unfold splicedM at h ⊢
    split at h
    · cases h
    · rename_i z hz'
      have g1 := putMarkM_step (s := s) hz' rfl (by decide) (by show r.pos + _ ≤ _; omega) hI.opn
      obtain ⟨x, hx, _⟩ := spliced_add hT hA _ _ _ h (g1.1.inv (hI.start r.pos))
      have hmk := mark_tok hz'
      have hLt : L = r.list ++ ⟨3, ⟨#[36, 123]⟩, r.pos, r.line, r.pos - r.ls⟩ :: (x ++ u :: v :: w) := by rw [hL, hx, hmk]; simp
      have hat := hC.at hLt
      have hcan : canL (lastK 15 r.list) ⟨3, ⟨#[36, 123]⟩, r.pos, r.line, r.pos - r.ls⟩ = [36, 123] := by simp [canL, tl]
      have hsep : sepL (lastK 15 r.list) ⟨3, ⟨#[36, 123]⟩, r.pos, r.line, r.pos - r.ls⟩ = [] := by unfold sepL; rw [if_pos]; right; right; left; exact h9
      have hsn := sho_snoc r.list ⟨3, ⟨#[36, 123]⟩, r.pos, r.line, r.pos - r.ls⟩
      rw [hcan, hsep] at hat hsn
      simp only [List.length_nil, Nat.add_zero] at hat hsn
      rw [← hpos] at hat hsn
      have hlen := hat.1.left.len hat.2
      simp only [List.length_cons, List.length_nil, Nat.zero_add] at hlen hsn
      rw [fol_has hat.1.left, if_pos rfl]
      obtain ⟨z', hz2, B2⟩ := mark_bk (r := { r with start := r.pos }) (r' := { r' with start := r'.pos }) (d := 0) ⟨B.pos, B.opn, B.list⟩ hz' (by rw [hmk]; show r'.pos + 2 = _; rw [hsn])
      have g1' := putMarkM_step (s := T) hz2 rfl (by decide) (by show r'.pos + _ ≤ _; rw [hz]; omega) hI'.opn
      have hIz' : Inv 0 T z' := g1'.1.inv (hI'.start r'.pos)
      rw [hz2]
      simp only
      rw [B.len]
      have hlk : lastK 15 z.list = 3 := by rw [hmk, lastK_append]; rfl
      have hgt := g1'.1.gt
      simp at hgt
      exact spliced_bk hC hT hT' hA hK hB _ _ _ _ _ (u :: v :: w) h (g1.1.inv (hI.start r.pos)) hL (by omega) (by omega) B2 hIz' (by omega) (by have := hIz'.pos; omega)
  · rename_i cc
    simp only at h ⊢
    split at h
    · cases h
    · rename_i c2
      have hle := runM_le s (fun i => inWordM (bt s i)) (r.pos + 1) (by omega)
      change r.pos + 1 ≤ wordEndM s (r.pos + 1) ∧ wordEndM s (r.pos + 1) ≤ s.size at hle
      obtain ⟨e1, _⟩ := named_eq (T := s) (r' := { r with start := r.pos + 1 }) h rfl
      have hq : q.list = r.list ++ [⟨(if keywordM (s.extract (r.pos + 1) (wordEndM s (r.pos + 1))) = true then 1 else 0), s.extract (r.pos + 1) (wordEndM s (r.pos + 1)), r.pos + 1, r.line, r.pos + 1 - r.ls⟩] := by rw [e1]; rfl
      generalize hkd : (if keywordM (s.extract (r.pos + 1) (wordEndM s (r.pos + 1))) = true then 1 else 0) = kd at h e1 hq
      have hk01 : kd = 0 ∨ kd = 1 := by rw [← hkd]; split <;> simp
      have hLt : L = r.list ++ ⟨kd, s.extract (r.pos + 1) (wordEndM s (r.pos + 1)), r.pos + 1, r.line, r.pos + 1 - r.ls⟩ :: u :: v :: w := by rw [hL, hq]; simp
      have hcan : canL (lastK 15 r.list) ⟨kd, s.extract (r.pos + 1) (wordEndM s (r.pos + 1)), r.pos + 1, r.line, r.pos + 1 - r.ls⟩ = 36 :: (s.extract (r.pos + 1) (wordEndM s (r.pos + 1))).data.toList := by
        unfold canL; rw [if_pos hk01, if_pos h9]; rfl
      have hsep : sepL (lastK 15 r.list) ⟨kd, s.extract (r.pos + 1) (wordEndM s (r.pos + 1)), r.pos + 1, r.line, r.pos + 1 - r.ls⟩ = [] := by unfold sepL; rw [if_pos]; right; right; left; exact h9
      have hat := hC.at hLt
      have hsn := sho_snoc r.list ⟨kd, s.extract (r.pos + 1) (wordEndM s (r.pos + 1)), r.pos + 1, r.line, r.pos + 1 - r.ls⟩
      have hne := name_end hC hLt hk01 hu hv hc
      rw [hcan, hsep] at hat hsn hne
      simp only [List.length_nil, Nat.add_zero, List.length_cons] at hat hsn hne
      rw [← hpos] at hat hsn hne
      have hl := ext_list_len (s := s) (a := r.pos + 1) hle.2
      rw [hl] at hsn hne
      -- the name has a first letter
      have hname : 0 < wordEndM s (r.pos + 1) - (r.pos + 1) ∧ clsM (bt (s.extract (r.pos + 1) (wordEndM s (r.pos + 1))) 0) = 2 := by
        simp only [Bool.or_eq_true, decide_eq_true_eq, not_or] at c2
        refine ⟨?_, by have := c2.2; omega⟩
        rcases Nat.eq_zero_or_pos (wordEndM s (r.pos + 1) - (r.pos + 1)) with h0 | h0
        · exfalso
          apply c2.1.1
          rw [Go.Lib.toList_data, List.isEmpty_iff]
          exact List.eq_nil_of_length_eq_zero (by rw [hl]; exact h0)
        · exact h0
      have hb0 : bt T (r'.pos + 1) = bt (s.extract (r.pos + 1) (wordEndM s (r.pos + 1))) 0 := by
        have h0 := hat.1.left.tail 0 (by rw [hl]; omega)
        rw [Nat.add_zero] at h0
        rw [h0.2, (ext_bytes hle.2 0 (by rw [hl]; omega)).1, bt_extract _ _ _ _ hle.2 (by omega)]
      have hnf : fol T r'.pos ⟨#[36, 123]⟩ = false := by
        rw [fol_two, hb0]
        have : (bt (s.extract (r.pos + 1) (wordEndM s (r.pos + 1))) 0 == 123) = false := by
          rw [beq_eq_false_iff_ne]; intro e; rw [e] at hname; exact absurd hname.2 (by decide)
        rw [this]; simp
      have hpT : r'.pos + 1 ≤ T.size := hat.1.left.head.1
      have hn1 := hname.1
      obtain ⟨k1, k2, _⟩ := word_can (s := s) (T := T) (r := { r with pos := r.pos + 1 }) (r' := { r' with pos := r'.pos + 1 }) (en := wordEndM s (r.pos + 1)) rfl (by show r.pos + 1 < wordEndM s (r.pos + 1); omega) hle.2 hat.1.left.tail hpT (fun _ => by
        show inWordM (bt T (r'.pos + 1 + (wordEndM s (r.pos + 1) - (r.pos + 1)))) = false
        rw [show r'.pos + 1 + (wordEndM s (r.pos + 1) - (r.pos + 1)) = r'.pos + (wordEndM s (r.pos + 1) - (r.pos + 1) + 1) by omega]; exact hne)
      simp only at k1 k2
      rw [hnf, if_neg (by simp), k1, k2, if_neg c2, hkd]
      obtain ⟨e3, e4⟩ := named_eq (T := T) (r' := { r' with start := r'.pos + 1 }) (en' := r'.pos + 1 + (wordEndM s (r.pos + 1) - (r.pos + 1))) h k2
      rw [e4]
      refine ⟨_, rfl, ?_⟩
      rw [e1]
      refine bk_put (r := { r with start := r.pos + 1 }) (r' := { r' with start := r'.pos + 1 }) (d := 0) ⟨B.pos, B.opn, B.list⟩ ?_
      show _ = (shoL 15 (r.list ++ [_])).length
      rw [hsn]
      omega

theorem interp_bk (hC : Can T L) (hT : TokInv tok s) (hT' : TokInv tok' T) (hA : TokAdd tok s) (hK : TokKinds tok s) (hB : TokBk s T L tok tok' m) : ∀ (k k' : Nat) (r q r' : Rd) (y : List Tok), interpK tok s k r = .ok q → Inv 0 s r → L = q.list ++ y → Bk 0 r r' → Inv 0 T r' →
    T.size < m + r'.pos → T.size < k' + r'.pos → Sim q (interpK tok' T k' r')
  | 0, _, _, _, _, _, h, _, _, _, _, _, _ => by cases h
  | k + 1, k', r, q, r', y, h, hI, hL, B, hI', hm, hk => by
    have hpT := hI'.pos
    obtain ⟨j, rfl⟩ : ∃ j, k' = j + 1 := ⟨k' - 1, by omega⟩
    unfold interpK at h ⊢
    split at h
    · cases h
    · rename_i z hz
      obtain ⟨u, hu, hk9⟩ := part_list hz
      cases h
      have hL2 : L = r.list ++ u :: ⟨10, ⟨#[]⟩, z.pos, z.line, z.pos - z.ls⟩ :: y := by rw [hL]; simp [putM, hu]
      obtain ⟨z', hz', B2⟩ := part_bk hC hz hu hL2 ⟨[], by simp [canL]⟩ B
      rw [hz']
      refine ⟨_, rfl, bk_put (r := { z with start := z.pos }) (r' := { z' with start := z'.pos }) (d := 0) ⟨B2.pos, B2.opn, B2.list⟩ ?_⟩
      have hsn := sho_snoc z.list ⟨10, ⟨#[]⟩, z.pos, z.line, z.pos - z.ls⟩
      have hlk : lastK 15 z.list = 9 := by rw [hu, lastK_append]; exact hk9
      have hsep : sepL (lastK 15 z.list) ⟨10, ⟨#[]⟩, z.pos, z.line, z.pos - z.ls⟩ = [] := by unfold sepL; rw [if_pos]; right; right; left; exact hlk
      have hcan : canL (lastK 15 z.list) ⟨10, ⟨#[]⟩, z.pos, z.line, z.pos - z.ls⟩ = [34] := by simp [canL]
      rw [hsep, hcan] at hsn
      show z'.pos + 1 = (shoL 15 (z.list ++ [_])).length
      rw [hsn, B2.pos]; rfl
    · rename_i z hz
      obtain ⟨u, hu, hk9⟩ := part_list hz
      have g1 := partM_inv hz hI
      split at h
      · cases h
      · rename_i z2 hz2
        have g2 := exprM_inv hT hz2 g1.1 g1.2.2
        obtain ⟨t, x, f, hx, hf⟩ := expr_first hT hA hz2 g1.1 g1.2.2
        obtain ⟨u2, v2, w2, c2, f2, hq2, hu2, hv2, hc2⟩ := interp_head hT hA h g2.1
        have hL2 : L = r.list ++ u :: t :: (x ++ (u2 :: v2 :: w2 ++ y)) := by rw [hL, hq2, hx, hu]; simp
        obtain ⟨z', hz', B2⟩ := part_bk hC hz hu hL2 ⟨f, hf⟩ B
        have g1' := partM_inv hz' hI'
        rw [hz']
        simp only
        have hlk : lastK 15 z.list = 9 := by rw [hu, lastK_append]; exact hk9
        obtain ⟨z2', hz2', B3⟩ := expr_bk hC hT hT' hA hK hB hz2 g1.1 g1.2.2 (by rw [hL, hq2]; simp : L = z2.list ++ u2 :: v2 :: (w2 ++ y)) hu2 hv2 hc2 hlk B2 g1'.1 (by have := g1'.2.1; omega)
        have g2' := exprM_inv hT' hz2' g1'.1 g1'.2.2
        rw [hz2']
        exact interp_bk hC hT hT' hA hK hB k j z2 q z2' y h g2.1 hL B3 g2'.1 (by have := g1'.2.1; have := g2'.2; omega) (by have := g1'.2.1; have := g2'.2; omega)
end
end Go.Proofs.YtcdidmohgcegmaaDoor
/- The reader's model over the canonical text of what it read: the whole list. No condition on memory. -/
namespace Go.Proofs.YtcdidmohgcegmaaDoor

theorem snoc_cons {l : List Tok} {t u : Tok} {x : List Tok} (h : l ++ t :: x = l ++ [u]) : t = u ∧ x = [] := by
  have := List.append_cancel_left h
  simpa using this
theorem lt_of_bt {s T : ByteArray} {p n : Nat} (h : bt T p = bt s n) (hc : clsM (bt s n) ≠ 0) : p < T.size := by
  rcases Nat.lt_or_ge p T.size with g | g
  · exact g
  · rw [← h, bt_out T p g] at hc
    exact absurd (by decide) hc
theorem opEnd_tb {T : ByteArray} {p : Nat} (h : p < opEndM T p) : fol T p ⟨#[47, 47]⟩ = false ∧ fol T p ⟨#[47, 42]⟩ = false := by
  have g := runM_all (s := T) (f := fun i => clsM (bt T i) == 4 && !bcM (T.extract i T.size)) (p := p) (i := p) (Nat.le_refl _) h
  simp only [Bool.and_eq_true, Bool.not_eq_true', bcM_fol, Bool.or_eq_false_iff] at g
  exact g.2
section
variable {s T : ByteArray} {L : List Tok} {tok tok' : Rd → Except Flt Rd} {m : Nat}
/-- A word's canonical form at the reader's place. -/
theorem word_bk (hC : Can T L) (hT : TokInv tok s) (hT' : TokInv tok' T) (hA : TokAdd tok s) (hK : TokKinds tok s) (hB : TokBk s T L tok tok' m) {r q r' : Rd} {t : Tok} {x y : List Tok}
    (h : wordM tok s r = .ok q) (hI : Inv 0 s r) (h0 : r.start = r.pos) (hp : r.pos < s.size) (hc : clsM (bt s r.pos) = 2) (hq : q.list = r.list ++ t :: x) (hL : L = q.list ++ y)
    (h8 : lastK 15 r.list ≠ 8) (h9 : lastK 15 r.list ≠ 9) (B : Bk (sepL (lastK 15 r.list) t).length r r') (h0' : r'.start = r'.pos) (hy : ∀ u z, y = u :: z → u.kind ≠ 9) (hm : T.size ≤ m + r'.pos) (hI' : Inv 0 T r') :
    bt T r'.pos = bt s r.pos ∧ Sim q (wordM tok' T r') := by
  have g0 := runM_gt (f := fun i => inWordM (bt s i)) hp (by simp [inWordM, hc])
  change r.pos < wordEndM s r.pos ∧ wordEndM s r.pos ≤ s.size at g0
  have hl := ext_list_len (s := s) (a := r.pos) g0.2
  have hsz : (s.extract r.pos (wordEndM s r.pos)).size = wordEndM s r.pos - r.pos := ext_size (by omega) g0.2
  have hLt : L = r.list ++ t :: (x ++ y) := by rw [hL, hq]; simp
  have hat := hC.at hLt
  have hsn := sho_snoc r.list t
  rw [← B.pos] at hat hsn
  -- a plain word: its text, and a blank or the end behind it
  have plain : x = [] → canL (lastK 15 r.list) t = (s.extract r.pos (wordEndM s r.pos)).data.toList → t.kind ≠ 8 → t.kind ≠ 9 → t.kind ≠ 15 →
      (wordEndM T r'.pos = r'.pos + (wordEndM s r.pos - r.pos) ∧ T.extract r'.pos (r'.pos + (wordEndM s r.pos - r.pos)) = s.extract r.pos (wordEndM s r.pos) ∧ bt T r'.pos = bt s r.pos) ∧ Nx T (r'.pos + (wordEndM s r.pos - r.pos)) ∧
      (shoL 15 q.list).length = r'.pos + (wordEndM s r.pos - r.pos) := fun hx hcan k8 k9 k15 => by
    have H : Hand T L r r' t y := ⟨hC, by rw [hLt, hx]; rfl, h8, h9, B, h0'⟩
    have hN := H.nx hy k8 k9 k15
    rw [hcan, hl] at hN
    rw [hcan] at hat hsn
    refine ⟨word_can rfl g0.1 g0.2 hat.1.left hat.2 (fun hh => nx_word hN hh), hN, ?_⟩
    rw [hq, hx, hsn, hl]
  unfold wordM at h ⊢
  simp only at h ⊢
  split at h
  · rename_i c
    have hmk := mark_tok h
    rw [hq] at hmk
    have e := List.append_cancel_left hmk
    simp only [List.cons.injEq] at e
    have hcan : canL (lastK 15 r.list) t = (s.extract r.pos (wordEndM s r.pos)).data.toList := by rw [e.1]; simp [canL, tl]
    obtain ⟨⟨k1, k2, k3⟩, hN, hlen⟩ := plain e.2 hcan (by rw [e.1]; simp) (by rw [e.1]; simp) (by rw [e.1]; simp)
    refine ⟨k3, ?_⟩
    rw [k1, k2, if_pos c]
    exact mark_bk B h (by rw [hlen, h0', hsz])
  · rename_i c
    split at h
    · rename_i c2
      obtain ⟨e1, _⟩ := named_eq (T := s) (r' := r) h rfl
      have e : t = ⟨1, s.extract r.start (wordEndM s r.pos), r.start, r.line, r.start - r.ls⟩ ∧ x = [] := by
        rw [e1] at hq
        exact snoc_cons hq.symm
      have hcan : canL (lastK 15 r.list) t = (s.extract r.pos (wordEndM s r.pos)).data.toList := by rw [e.1, h0]; unfold canL; rw [if_pos (.inr rfl), if_neg h9]; rfl
      obtain ⟨⟨k1, k2, k3⟩, hN, hlen⟩ := plain e.2 hcan (by rw [e.1]; simp) (by rw [e.1]; simp) (by rw [e.1]; simp)
      refine ⟨k3, ?_⟩
      rw [k1, k2, if_neg c, if_pos c2]
      obtain ⟨e3, e4⟩ := named_eq (T := T) (r' := r') (en' := r'.pos + (wordEndM s r.pos - r.pos)) h (by rw [h0', h0, k2])
      rw [e4]
      refine ⟨_, rfl, ?_⟩
      rw [e1]
      exact bk_put B (by rw [← e1, hlen])
    · rename_i c2
      split at h
      · rename_i c3
        have hf := fol_len c3
        have hz1 : (⟨#[34]⟩ : ByteArray).size = 1 := rfl
        split at h
        · cases h
        · rename_i z hz
          have z1 := putNamedM_step hz g0.1 g0.2 hI.opn
          have z4 : Inv 0 s z := z1.1.inv hI.more
          have z5 : Inv 0 s { z with pos := wordEndM s r.pos + 1 } := ⟨by show wordEndM s r.pos + 1 ≤ _; omega, by show z.line ≤ wordEndM s r.pos + 1; have := z4.line; have := z1.2; omega, by show z.ls ≤ wordEndM s r.pos + 1; have := z4.ls; have := z1.2; omega, by show z.list.length ≤ 2 * (wordEndM s r.pos + 1) + 0; have := z4.len; have := z1.2; omega, z4.opn⟩
          obtain ⟨e1, _⟩ := named_eq (T := s) (r' := r) hz rfl
          have hzl : z.list = r.list ++ [⟨8, s.extract r.start (wordEndM s r.pos), r.start, r.line, r.start - r.ls⟩] := by rw [e1]; rfl
          obtain ⟨yy, b, hyy, _⟩ := interp_add hT hA _ _ _ h z5
          have e : t = ⟨8, s.extract r.start (wordEndM s r.pos), r.start, r.line, r.start - r.ls⟩ := by
            have e2 : r.list ++ t :: x = r.list ++ ⟨8, s.extract r.start (wordEndM s r.pos), r.start, r.line, r.start - r.ls⟩ :: (yy ++ [b]) := by
              rw [← hq, hyy]; show z.list ++ _ = _; rw [hzl]; simp
            have := List.append_cancel_left e2
            simp only [List.cons.injEq] at this
            exact this.1
          have hcan : canL (lastK 15 r.list) t = (s.extract r.pos (wordEndM s r.pos)).data.toList ++ [34] := by rw [e, h0]; simp [canL, tl]
          rw [hcan] at hat hsn
          rw [List.length_append, hl] at hsn
          have h34 := hat.1.left.right.head
          rw [hl] at h34
          obtain ⟨k1, k2, k3⟩ := word_can (s := s) (T := T) rfl g0.1 g0.2 hat.1.left.left hat.2 (fun _ => by rw [h34.2]; decide)
          refine ⟨k3, ?_⟩
          have hfT : fol T (r'.pos + (wordEndM s r.pos - r.pos)) ⟨#[34]⟩ = true := by rw [fol_one, h34.2]; simp [h34.1]
          rw [k1, k2, if_neg c, if_neg c2, hfT, if_pos rfl]
          obtain ⟨e3, e4⟩ := named_eq (T := T) (r' := r') (en' := r'.pos + (wordEndM s r.pos - r.pos)) hz (by rw [h0', h0, k2])
          rw [e4]
          simp only
          have B2 : Bk 0 { z with pos := wordEndM s r.pos + 1 } { putM r' 8 (s.extract r.start (wordEndM s r.pos)) (r'.pos + (wordEndM s r.pos - r.pos)) with pos := r'.pos + (wordEndM s r.pos - r.pos) + 1 } := by
            refine ⟨?_, ?_, ?_⟩
            · show r'.pos + (wordEndM s r.pos - r.pos) + 1 = (shoL 15 z.list).length + 0
              rw [hzl, ← e, hsn]; simp; omega
            · show r'.opn.map Prod.fst = z.opn.map Prod.fst
              rw [e1]; exact B.opn
            · show (putM r' 8 _ _).list.map kt = z.list.map kt
              rw [hzl]; simp only [putM, List.map_append, List.map_cons, List.map_nil, B.list, kt]
          have hI2 : Inv 0 T { putM r' 8 (s.extract r.start (wordEndM s r.pos)) (r'.pos + (wordEndM s r.pos - r.pos)) with pos := r'.pos + (wordEndM s r.pos - r.pos) + 1 } := by
            refine ⟨?_, ?_, ?_, ?_, ?_⟩
            · show r'.pos + (wordEndM s r.pos - r.pos) + 1 ≤ T.size; exact h34.1
            · show r'.line ≤ r'.pos + (wordEndM s r.pos - r.pos) + 1; have := hI'.line; omega
            · show r'.ls ≤ r'.pos + (wordEndM s r.pos - r.pos) + 1; have := hI'.ls; omega
            · show (r'.list ++ [_]).length ≤ 2 * (r'.pos + (wordEndM s r.pos - r.pos) + 1) + 0; have := hI'.len; simp; omega
            · show r'.opn.length ≤ 64; exact hI'.opn
          refine interp_bk hC hT hT' hA hK hB _ _ _ _ _ y h z5 hL B2 hI2 ?_ ?_
          · show T.size < m + (r'.pos + (wordEndM s r.pos - r.pos) + 1); omega
          · show T.size < T.size + 1 - (r'.pos + (wordEndM s r.pos - r.pos) + 1) + (r'.pos + (wordEndM s r.pos - r.pos) + 1); have := h34.1; omega
      · rename_i c3
        obtain ⟨e1, _⟩ := named_eq (T := s) (r' := r) h rfl
        have e : t = ⟨0, s.extract r.start (wordEndM s r.pos), r.start, r.line, r.start - r.ls⟩ ∧ x = [] := by
          rw [e1] at hq
          exact snoc_cons hq.symm
        have hcan : canL (lastK 15 r.list) t = (s.extract r.pos (wordEndM s r.pos)).data.toList := by rw [e.1, h0]; unfold canL; rw [if_pos (.inl rfl), if_neg h9]; rfl
        obtain ⟨⟨k1, k2, k3⟩, hN, hlen⟩ := plain e.2 hcan (by rw [e.1]; simp) (by rw [e.1]; simp) (by rw [e.1]; simp)
        refine ⟨k3, ?_⟩
        rw [k1, k2, if_neg c, if_neg c2, nx_fol hN (by decide), if_neg (by simp)]
        obtain ⟨e3, e4⟩ := named_eq (T := T) (r' := r') (en' := r'.pos + (wordEndM s r.pos - r.pos)) h (by rw [h0', h0, k2])
        rw [e4]
        refine ⟨_, rfl, ?_⟩
        rw [e1]
        exact bk_put B (by rw [← e1, hlen])

theorem tokenF_bk (hC : Can T L) (hT : TokInv tok s) (hT' : TokInv tok' T) (hA : TokAdd tok s) (hK : TokKinds tok s) (hB : TokBk s T L tok tok' m) : TokBk s T L (tokenF tok s) (tokenF tok' T) (m + 1) := by
  intro r q r' t x y h hI hTb hq hL h8 h9 B hcond hm hI'
  have hLt : L = r.list ++ t :: (x ++ y) := by rw [hL, hq]; simp
  have B0 : Bk (sepL (lastK 15 r.list) t).length { r with start := r.pos } { r' with start := r'.pos } := ⟨B.pos, B.opn, B.list⟩
  have hand : x = [] → Hand T L { r with start := r.pos } { r' with start := r'.pos } t y := fun hx => ⟨hC, by rw [hLt, hx]; rfl, h8, h9, B0, rfl⟩
  have hyy : clsM (bt s r.pos) ≠ 5 → ∀ u z, y = u :: z → u.kind ≠ 9 := fun hc => hcond.resolve_left hc
  have fin : ∀ {k : Nat}, clsM (bt s r.pos) = k → k ≠ 0 → k ≠ 4 → bt T r'.pos = bt s r.pos → Tb T r'.pos := fun hc h0 h4 hb => tb_of hTb hb (lt_of_bt hb (by rw [hc]; exact h0)) hc h4
  have one : One7 { r with start := r.pos } q → x = [] ∧ t.kind ≤ 7 := fun ho => by
    obtain ⟨u, hu, hk, _⟩ := ho
    have hu' : q.list = r.list ++ [u] := hu
    rw [hq] at hu'
    obtain ⟨rfl, hx⟩ := snoc_cons hu'
    exact ⟨hx, hk⟩
  have hbc : bcM (s.extract r.pos s.size) = false := by rw [bcM_fol, hTb.c1, hTb.c2]; rfl
  unfold tokenF at h ⊢
  simp only at h ⊢
  split at h
  · rename_i c
    have hw := word_bk (r := { r with start := r.pos }) (r' := { r' with start := r'.pos }) hC hT hT' hA hK hB h (hI.start _) rfl hTb.lt c hq hL h8 h9 B0 rfl (hyy (by rw [c]; decide)) (by show T.size ≤ m + r'.pos; omega) (hI'.start _)
    refine ⟨fin c (by decide) (by decide) hw.1, ?_⟩
    rw [show bt T r'.pos = bt s r.pos from hw.1, if_pos c]
    exact hw.2
  · rename_i c2
    split at h
    · rename_i c
      obtain ⟨hx, hk⟩ := one (one7_number h)
      have H := hand hx
      have hw := number_bk H rfl h hTb.lt c (by show q.list = r.list ++ [t]; rw [hq, hx]) (H.nx (hyy (by rw [c]; decide)) (by omega) (by omega) (by omega))
      refine ⟨fin c (by decide) (by decide) hw.1, ?_⟩
      rw [show bt T r'.pos = bt s r.pos from hw.1, if_neg c2, if_pos c]
      exact hw.2
    · rename_i c3
      split at h
      · rename_i c
        obtain ⟨hx, hk⟩ := one (one7_operator h)
        have H := hand hx
        have hw := operator_bk H rfl h hTb.lt c hbc (by show q.list = r.list ++ [t]; rw [hq, hx]) (H.nx (hyy (by rw [c]; decide)) (by omega) (by omega) (by omega))
        have hb : bt T r'.pos = bt s r.pos := hw.1
        have hto := opEnd_tb hw.2.1
        refine ⟨⟨lt_of_bt hb (by rw [c]; decide), ?_, by rw [hb]; exact hTb.cls, hto.1, hto.2⟩, ?_⟩
        · have := hTb.nl
          rw [fol_one] at this ⊢
          rw [hb]
          have hlt := hTb.lt
          simp only [hlt, decide_true, Bool.true_and] at this
          rw [this]; simp
        · rw [hb, if_neg c2, if_neg c3, if_pos c]
          exact hw.2.2
      · rename_i c4
        split at h
        · rename_i c
          have hmk := mark_tok h
          have hmk' : q.list = r.list ++ [⟨3, s.extract r.pos (r.pos + 1), r.pos, r.line, r.pos - r.ls⟩] := hmk
          rw [hq] at hmk'
          obtain ⟨ht, hx⟩ := snoc_cons hmk'
          have H := hand hx
          have hw := single_bk H rfl h hTb.lt (by show q.list = r.list ++ [t]; rw [hq, hx]) (by rw [ht]; exact ⟨rfl, rfl⟩)
          refine ⟨fin c (by decide) (by decide) hw.1, ?_⟩
          rw [show bt T r'.pos = bt s r.pos from hw.1, if_neg c2, if_neg c3, if_neg c4, if_pos c]
          exact hw.2
        · rename_i c5
          split at h
          · rename_i c
            obtain ⟨hx, hk⟩ := one (one7_char h)
            have hw := char_bk (hand hx) h (cls6 c) (by show q.list = r.list ++ [t]; rw [hq, hx])
            refine ⟨fin c (by decide) (by decide) hw.1, ?_⟩
            rw [show bt T r'.pos = bt s r.pos from hw.1, if_neg c2, if_neg c3, if_neg c4, if_neg c5, if_pos c]
            exact hw.2
          · rename_i c6
            split at h
            · rename_i c
              obtain ⟨hx, hk⟩ := one (one7_plain h)
              have hw := plain_bk (hand hx) h (cls7 c) (by show q.list = r.list ++ [t]; rw [hq, hx])
              refine ⟨fin c (by decide) (by decide) hw.1, ?_⟩
              rw [show bt T r'.pos = bt s r.pos from hw.1, if_neg c2, if_neg c3, if_neg c4, if_neg c5, if_neg c6, if_pos c]
              exact hw.2
            · rename_i c7
              split at h
              · rename_i c
                obtain ⟨hx, hk⟩ := one (one7_splice h)
                have hw := splice_bk (hand hx) h (cls8 c) (by show q.list = r.list ++ [t]; rw [hq, hx])
                refine ⟨fin c (by decide) (by decide) hw.1, ?_⟩
                rw [show bt T r'.pos = bt s r.pos from hw.1, if_neg c2, if_neg c3, if_neg c4, if_neg c5, if_neg c6, if_neg c7, if_pos c]
                exact hw.2
              · cases h
end
theorem tokenM_bk {s T : ByteArray} {L : List Tok} (hC : Can T L) : ∀ (n n' : Nat), TokBk s T L (tokenM s n) (tokenM T n') n'
  | 0, _ => fun _ _ _ _ _ _ h => by cases h
  | n + 1, 0 => fun _ _ _ _ _ _ _ _ _ _ _ _ _ _ _ hm hI' => by have := hI'.pos; omega
  | n + 1, j + 1 => tokenF_bk hC (tokenM_inv s n) (tokenM_inv T j) (tokenM_add s n) (tokenM_kinds s n) (tokenM_bk hC n j)
theorem read_bk {s T : ByteArray} {L : List Tok} (hC : Can T L) : ∀ (n n' : Nat) (r r' : Rd), readK s n r = .ok L → Inv 0 s r → lastK 15 r.list ≠ 8 → lastK 15 r.list ≠ 9 → Bk 0 r r' → Inv 0 T r' → T.size + 1 < n' + r'.pos → ∃ l, readK T n' r' = .ok l ∧ l.map kt = L.map kt
  | 0, _, _, _, h, _, _, _, _, _, _ => by cases h
  | n + 1, n', r, r', h, hI, h8, h9, B, hI', hn => by
    have hpT := hI'.pos
    obtain ⟨j, rfl⟩ : ∃ j, n' = j + 1 := ⟨n' - 1, by omega⟩
    have hpos : r'.pos = (shoL 15 r.list).length := by rw [B.pos]; rfl
    unfold readK at h ⊢
    split at h
    · cases h
    · rename_i z hz
      have g1 := skipM_inv hz hI
      split at h
      · rename_i c0
        cases h
        have hend : r'.pos = T.size := by rw [hpos, hC.size, g1.2.2.2.1]
        have hsk : skipM T r' = .ok (false, r') := by
          unfold skipM
          rw [show T.size + 1 - r'.pos = 0 + 1 by omega, skipK, if_neg (by omega)]
        rw [hsk]
        simp only
        rw [if_pos (by rw [B.len, ← g1.2.2.1]; exact c0)]
        exact ⟨_, rfl, by rw [B.list, g1.2.2.2.1]⟩
      · cases h
    · rename_i z hz
      have g1 := skipM_inv hz hI
      have g1' := g1.2.2.2.2 rfl
      have g2 := skip_fin _ _ _ hz
      split at h
      · cases h
      · rename_i z2 hz2
        have g3 := tokenM_inv s _ _ _ hz2 g1.1 g1'.1 g1'.2.1 g1'.2.2.1
        have gk := tokenM_kinds s _ _ _ hz2 g1.1 g2
        obtain ⟨t, x, hx, ht8, hlast⟩ := gk.put
        have hzl : z.list = r.list := g1.2.2.2.1
        obtain ⟨x2, hx2, _⟩ := read_list n _ _ h g3.1
        have hLt : L = r.list ++ t :: (x ++ x2) := by rw [hx2, hx, hzl]; simp
        have hcond : ∀ u w, x2 = u :: w → u.kind ≠ 9 := fun u w hu => by
          cases n with
          | zero => cases h
          | succ n2 =>
            have h' := h
            unfold readK at h'
            split at h'
            · cases h'
            · rename_i v hv
              have v1 := skipM_inv hv g3.1
              split at h'
              · cases h'
                rw [v1.2.2.2.1] at hx2
                have := congrArg List.length hx2
                simp [hu] at this
              · cases h'
            · rename_i v hv
              have v1 := skipM_inv hv g3.1
              have v1' := v1.2.2.2.2 rfl
              split at h'
              · cases h'
              · rename_i v2 hv2
                have v3 := tokenM_inv s _ _ _ hv2 v1.1 v1'.1 v1'.2.1 v1'.2.2.1
                obtain ⟨t', x', hx', ht8', _⟩ := (tokenM_kinds s _ _ _ hv2 v1.1 (skip_fin _ _ _ hv)).put
                obtain ⟨x3, hx3, _⟩ := read_list _ _ _ h' v3.1
                have e : z2.list ++ x2 = z2.list ++ (t' :: (x' ++ x3)) := by rw [← hx2, hx3, hx', v1.2.2.2.1]; simp
                have e2 := List.append_cancel_left e
                rw [e2] at hu
                simp only [List.cons.injEq] at hu
                rw [← hu.1]; omega
        have hs := hC.sep hLt
        rw [← hpos] at hs
        have hle := (hC.at hLt).2
        rw [← hpos] at hle
        have hI1 : Inv 0 T { r' with pos := r'.pos + (sepL (lastK 15 r.list) t).length } := ⟨hle, by show r'.line ≤ r'.pos + _; have := hI'.line; omega, by show r'.ls ≤ r'.pos + _; have := hI'.ls; omega, by show r'.list.length ≤ 2 * (r'.pos + _) + 0; have := hI'.len; omega, hI'.opn⟩
        have B1 : Bk (sepL (lastK 15 r.list) t).length z { r' with pos := r'.pos + (sepL (lastK 15 r.list) t).length } := ⟨by show r'.pos + _ = _; rw [B.pos, hzl]; omega, by rw [g1.2.2.1]; exact B.opn, by rw [hzl]; exact B.list⟩
        obtain ⟨hTb, z2', hz2', B2⟩ := tokenM_bk hC _ (T.size + 1 - (r'.pos + (sepL (lastK 15 r.list) t).length)) z z2 _ t x x2 hz2 g1.1 g2 hx hx2 (by rw [hzl]; exact h8) (by rw [hzl]; exact h9) (by rw [hzl]; exact B1) (.inr hcond) (by show T.size < T.size + 1 - (r'.pos + _) + (r'.pos + _); omega) hI1
        have hsk := sim_skip (k := T.size + 1 - r'.pos) (sep_cases (lastK 15 r.list) t) hs hTb (by have := hTb.lt; simp at this; omega)
        have hgt := tokenM_inv T _ _ _ hz2' hI1 hTb.lt hTb.c1 hTb.c2
        have e1 : skipM T r' = .ok (true, { r' with pos := r'.pos + (sepL (lastK 15 r.list) t).length }) := hsk
        rw [e1]
        simp only
        rw [hz2']
        have hlk : lastK 15 z2.list = lastK (lastK 15 r.list) (t :: x) := by rw [hx, hzl, lastK_append]
        have hl2 := hlast (lastK 15 r.list)
        have hgt2 : r'.pos < z2'.pos := by have := hgt.2; simp at this; omega
        exact read_bk hC n j z2 z2' h g3.1 (by rw [hlk]; omega) (by rw [hlk]; omega) B2 hgt.1 (by omega)
end Go.Proofs.YtcdidmohgcegmaaDoor
/- Raw of Show of what Raw returned has the same kinds and texts: over the reader's model. Condition: a text of at most 4000 bytes. -/
namespace Go.Proofs.YtcdidmohgcegmaaDoor

def sumT : List Tok → Nat
  | [] => 0
  | t :: l => t.text.size + sumT l
theorem sumT_append : ∀ a b : List Tok, sumT (a ++ b) = sumT a + sumT b
  | [], b => by simp [sumT]
  | t :: a, b => by simp [sumT, sumT_append a b]; omega
def goodTok (t : Tok) : Prop := t.kind = 6 ∨ t.kind = 7 ∨ t.kind = 9 ∨ ∀ c ∈ tl t, badByte c = false
structure Txt (r : Rd) : Prop where
  good : ∀ t ∈ r.list, goodTok t ∧ t.kind ≤ 10
  sum : sumT r.list ≤ r.pos
theorem charsK_sum {s : ByteArray} {e o : Int} {st : Nat} : ∀ (k p : Nat) (acc l : List UInt8) (n : Nat), charsK s e o st k p acc = .ok (l, n) → l.length + p ≤ acc.length + n
  | 0, _, _, _, _, h => by cases h
  | k + 1, p, acc, l, n, h => by
    unfold charsK at h
    split at h
    · split at h
      · cases h; omega
      · split at h
        · cases h
        · rename_i b p' hc
          have h1 := charsK_sum k _ _ _ _ h
          have h2 := character_gt hc
          simp at h1
          omega
    · cases h
section
variable {s : ByteArray} {r q : Rd} (hg : ∀ i, i < s.size → badByte (bt s i) = false)
include hg
theorem ext_good {a b : Nat} (hb : b ≤ s.size) : ∀ c ∈ (s.extract a b).data.toList, badByte c = false := fun c hc => by
  obtain ⟨j, hj, rfl⟩ := List.getElem_of_mem hc
  obtain ⟨e1, e2⟩ := ext_bytes hb j hj
  rw [e1]
  exact hg _ (by omega)
omit hg in
theorem txt_put (h : Txt r) {kind en : Nat} {text : ByteArray} (h1 : kind = 6 ∨ kind = 7 ∨ kind = 9 ∨ ∀ c ∈ text.data.toList, badByte c = false) (h2 : r.pos + text.size ≤ en) (hk : kind ≤ 10) : Txt (putM r kind text en) := by
  refine ⟨fun t ht => ?_, ?_⟩
  · simp only [putM, List.mem_append, List.mem_singleton] at ht
    rcases ht with ht | rfl
    · exact h.good t ht
    · exact ⟨h1, hk⟩
  · simp only [putM, sumT_append, sumT]
    have := h.sum
    omega
theorem txt_named {kind en : Nat} (h : Txt r) (hn : putNamedM s r kind en = .ok q) (h1 : r.pos ≤ r.start) (h2 : r.start ≤ en) (h3 : en ≤ s.size) (hk : kind ≤ 10) : Txt q := by
  rw [(named_eq (T := s) (r' := r) hn rfl).1]
  exact txt_put h (.inr (.inr (.inr (ext_good hg h3)))) (by rw [ext_size h2 h3]; omega) hk
omit hg in
theorem txt_mark {m : ByteArray} (h : Txt r) (hn : putMarkM r m = .ok q) (h1 : r.start = r.pos) (hm : ∀ c ∈ m.data.toList, badByte c = false) : Txt q := by
  have h2 := mark_tok hn
  have h3 := putMark_pos hn
  refine ⟨fun t ht => ?_, ?_⟩
  · rw [h2, List.mem_append, List.mem_singleton] at ht
    rcases ht with ht | rfl
    · exact h.good t ht
    · exact ⟨.inr (.inr (.inr hm)), show (3 : Nat) ≤ 10 by decide⟩
  · rw [h2, h3, sumT_append]
    simp only [sumT]
    have := h.sum
    omega
theorem txt_number (h : Txt r) (hn : numberM s r = .ok q) (hst : r.start = r.pos) (hp : r.pos ≤ s.size) : Txt q := by
  have hle := runM_le s (fun i => clsM (bt s i) == 3) r.pos hp
  change r.pos ≤ digEndM s r.pos ∧ digEndM s r.pos ≤ s.size at hle
  cases hl : (decide (digEndM s r.pos < s.size) && decide ((bt s (digEndM s r.pos)).toNat = 76)) with
  | false =>
    rw [numberM_short rfl hl] at hn
    split at hn
    · cases hn
    · split at hn
      · cases hn
      · cases hn; exact txt_put h (.inr (.inr (.inr (ext_good hg hle.2)))) (by rw [ext_size hle.1 hle.2]; omega) (by decide)
  | true =>
    rw [numberM_long rfl hl] at hn
    split at hn
    · cases hn
    · split at hn
      · cases hn
      · cases hn; exact txt_put h (.inr (.inr (.inr (ext_good hg hle.2)))) (by rw [ext_size hle.1 hle.2]; omega) (by decide)
theorem txt_operator (h : Txt r) (hn : operatorM s r = .ok q) (hst : r.start = r.pos) (hp : r.pos ≤ s.size) : Txt q := by
  have hle := runM_le s (fun i => clsM (bt s i) == 4 && !bcM (s.extract i s.size)) r.pos hp
  change r.pos ≤ opEndM s r.pos ∧ opEndM s r.pos ≤ s.size at hle
  unfold operatorM at hn
  simp only at hn
  split at hn
  · exact txt_mark h hn hst (ext_good hg hle.2)
  · exact txt_named hg h hn (by omega) (by omega) hle.2 (by decide)
omit hg in
theorem two_good (a b : UInt8) (ha : badByte a = false) (hb : badByte b = false) : ∀ c ∈ (⟨#[a, b]⟩ : ByteArray).data.toList, badByte c = false := fun c hc => by
  simp at hc
  rcases hc with rfl | rfl <;> assumption
omit hg in
theorem txt_char (h : Txt r) (hn : charM s r = .ok q) (hst : r.start = r.pos) : Txt q := by
  unfold charM at hn
  split at hn
  · exact txt_mark h hn hst (two_good _ _ (by decide) (by decide))
  · split at hn
    · cases hn
    · rename_i l p hc
      have := charsK_sum _ _ _ _ _ hc
      split at hn
      · cases hn
        exact txt_put h (.inl rfl) (by have e : (bytesOf l).size = l.length := by simp [bytesOf, ByteArray.size]
                                       simp at this; omega) (by decide)
      · cases hn
omit hg in
theorem txt_plain (h : Txt r) (hn : plainM s r = .ok q) : Txt q := by
  unfold plainM at hn
  split at hn
  · cases hn
  · rename_i l p hc
    have := charsK_sum _ _ _ _ _ hc
    cases hn
    exact txt_put h (.inr (.inl rfl)) (by have e : (bytesOf l).size = l.length := by simp [bytesOf, ByteArray.size]
                                          simp at this; omega) (by decide)
omit hg in
theorem txt_splice (h : Txt r) (hn : spliceM s r = .ok q) (hst : r.start = r.pos) : Txt q := by
  unfold spliceM at hn
  split at hn
  · exact txt_mark h hn hst (two_good _ _ (by decide) (by decide))
  · cases hn
omit hg in
theorem txt_part {b : Bool} (h : Txt r) (hn : partM s r = .ok (b, q)) : Txt q := by
  unfold partM at hn
  split at hn
  · cases hn
  · rename_i l p hc
    have := charsK_sum _ _ _ _ _ hc
    cases hn
    have hr : Txt { r with start := r.pos } := ⟨h.good, h.sum⟩
    exact txt_put hr (.inr (.inr (.inl rfl))) (by have e : (bytesOf l).size = l.length := by simp [bytesOf, ByteArray.size]
                                                  simp at this; show r.pos + _ ≤ p; omega) (by decide)
omit hg in
theorem Txt.move (h : Txt r) (hl : q.list = r.list) (hp : r.pos ≤ q.pos) : Txt q := ⟨by rw [hl]; exact h.good, by rw [hl]; have := h.sum; omega⟩
end
def TokTxt (tok : Rd → Except Flt Rd) (s : ByteArray) : Prop := ∀ (r q : Rd), tok r = .ok q → Inv 0 s r → Tb s r.pos → Txt r → Txt q
section
variable {s : ByteArray} {tok : Rd → Except Flt Rd} (hg : ∀ i, i < s.size → badByte (bt s i) = false)
theorem spliced_txt (hT : TokInv tok s) (hX : TokTxt tok s) {outer : Nat} : ∀ (k : Nat) (r q : Rd), splicedK tok s outer k r = .ok q → Inv 0 s r → Txt r → Txt q
  | 0, _, _, h, _, _ => by cases h
  | k + 1, r, q, h, hI, hx => by
    unfold splicedK at h
    split at h
    · split at h
      · cases h
      · cases h
      · rename_i z hz
        have g1 := skipM_inv hz hI
        have g1' := g1.2.2.2.2 rfl
        split at h
        · cases h
        · rename_i z2 hz2
          have g3 := hT _ _ hz2 g1.1 g1'.1 g1'.2.1 g1'.2.2.1
          exact spliced_txt hT hX k _ _ h g3.1 (hX _ _ hz2 g1.1 (skip_fin _ _ _ hz) (hx.move g1.2.2.2.1 g1.2.1))
    · cases h; exact hx
include hg
theorem expr_txt (hT : TokInv tok s) (hX : TokTxt tok s) {r q : Rd} (h : exprM tok s r = .ok q) (hI : Inv 1 s r) (hp : r.pos < s.size) (hx : Txt r) : Txt q := by
  unfold exprM at h
  split at h
  · rename_i c
    have g2 := fol_len c
    have hz : (⟨#[36, 123]⟩ : ByteArray).size = 2 := rfl
    unfold splicedM at h
    split at h
    · cases h
    · rename_i z hz'
      have g1 := putMarkM_step (s := s) hz' rfl (by decide) (by show r.pos + _ ≤ _; omega) hI.opn
      have hx0 : Txt { r with start := r.pos } := ⟨hx.good, hx.sum⟩
      exact spliced_txt hT hX _ _ _ h (g1.1.inv (hI.start r.pos)) (txt_mark hx0 hz' rfl (two_good _ _ (by decide) (by decide)))
  · simp only at h
    split at h
    · cases h
    · have hle := runM_le s (fun i => inWordM (bt s i)) (r.pos + 1) (by omega)
      change r.pos + 1 ≤ wordEndM s (r.pos + 1) ∧ wordEndM s (r.pos + 1) ≤ s.size at hle
      have hx0 : Txt { r with start := r.pos + 1 } := ⟨hx.good, hx.sum⟩
      exact txt_named hg hx0 h (by show r.pos ≤ r.pos + 1; omega) hle.1 hle.2 (by split <;> decide)
theorem interp_txt (hT : TokInv tok s) (hX : TokTxt tok s) : ∀ (k : Nat) (r q : Rd), interpK tok s k r = .ok q → Inv 0 s r → Txt r → Txt q
  | 0, _, _, h, _, _ => by cases h
  | k + 1, r, q, h, hI, hx => by
    unfold interpK at h
    split at h
    · cases h
    · rename_i z hz
      have h1 := txt_part hx hz
      cases h
      have h2 : Txt { z with start := z.pos } := ⟨h1.good, h1.sum⟩
      exact txt_put h2 (.inr (.inr (.inr (fun c hc => by simp at hc)))) (by show z.pos + 0 ≤ z.pos + 1; omega) (by decide)
    · rename_i z hz
      have g1 := partM_inv hz hI
      split at h
      · cases h
      · rename_i z2 hz2
        have g2 := exprM_inv hT hz2 g1.1 g1.2.2
        exact interp_txt hT hX k _ _ h g2.1 (expr_txt hg hT hX hz2 g1.1 g1.2.2 (txt_part hx hz))
theorem word_txt (hT : TokInv tok s) (hX : TokTxt tok s) {r q : Rd} (h : wordM tok s r = .ok q) (hI : Inv 0 s r) (h0 : r.start = r.pos) (hp : r.pos < s.size) (hc : clsM (bt s r.pos) = 2) (hx : Txt r) : Txt q := by
  have g0 := runM_gt (f := fun i => inWordM (bt s i)) hp (by simp [inWordM, hc])
  change r.pos < wordEndM s r.pos ∧ wordEndM s r.pos ≤ s.size at g0
  unfold wordM at h
  simp only at h
  split at h
  · exact txt_mark hx h h0 (ext_good hg g0.2)
  · split at h
    · exact txt_named hg hx h (by omega) (by omega) g0.2 (by decide)
    · split at h
      · rename_i hf
        have h2 := fol_len hf
        have hz1 : (⟨#[34]⟩ : ByteArray).size = 1 := rfl
        split at h
        · cases h
        · rename_i z hz
          have z1 := putNamedM_step hz g0.1 g0.2 hI.opn
          have z4 : Inv 0 s z := z1.1.inv hI.more
          have z5 : Inv 0 s { z with pos := wordEndM s r.pos + 1 } := ⟨by show wordEndM s r.pos + 1 ≤ _; omega, by show z.line ≤ wordEndM s r.pos + 1; have := z4.line; have := z1.2; omega, by show z.ls ≤ wordEndM s r.pos + 1; have := z4.ls; have := z1.2; omega, by show z.list.length ≤ 2 * (wordEndM s r.pos + 1) + 0; have := z4.len; have := z1.2; omega, z4.opn⟩
          have z6 := txt_named hg hx hz (by omega) (by omega) g0.2 (by decide)
          exact interp_txt hg hT hX _ _ _ h z5 (z6.move (q := { z with pos := wordEndM s r.pos + 1 }) rfl (by show z.pos ≤ wordEndM s r.pos + 1; have := z1.2; omega))
      · exact txt_named hg hx h (by omega) (by omega) g0.2 (by decide)
theorem tokenF_txt (hT : TokInv tok s) (hX : TokTxt tok s) : TokTxt (tokenF tok s) s := by
  intro r q h hI hB hx
  have hx0 : Txt { r with start := r.pos } := ⟨hx.good, hx.sum⟩
  unfold tokenF at h
  simp only at h
  split at h
  · rename_i c
    exact word_txt (r := { r with start := r.pos }) hg hT hX h (hI.start _) rfl hB.lt c hx0
  · split at h
    · exact txt_number hg hx0 h rfl hI.pos
    · split at h
      · exact txt_operator hg hx0 h rfl hI.pos
      · split at h
        · exact txt_mark hx0 h rfl (ext_good hg (by have := hB.lt; omega))
        · split at h
          · exact txt_char hx0 h rfl
          · split at h
            · exact txt_plain hx0 h
            · split at h
              · exact txt_splice hx0 h rfl
              · cases h
theorem tokenM_txt : ∀ n, TokTxt (tokenM s n) s
  | 0 => fun _ _ h => by cases h
  | n + 1 => tokenF_txt hg (tokenM_inv s n) (tokenM_txt n)
theorem read_txt : ∀ (n : Nat) (r : Rd) (l : List Tok), readK s n r = .ok l → Inv 0 s r → Txt r → (∀ t ∈ l, goodTok t ∧ t.kind ≤ 10) ∧ sumT l ≤ s.size
  | 0, _, _, h, _, _ => by cases h
  | n + 1, r, l, h, hI, hx => by
    unfold readK at h
    split at h
    · cases h
    · rename_i z hz
      have g1 := skipM_inv hz hI
      have h2 := hx.move g1.2.2.2.1 g1.2.1
      split at h
      · cases h
        exact ⟨h2.good, by have := h2.sum; have := g1.1.pos; omega⟩
      · cases h
    · rename_i z hz
      have g1 := skipM_inv hz hI
      have g1' := g1.2.2.2.2 rfl
      split at h
      · cases h
      · rename_i z2 hz2
        have g3 := tokenM_inv s _ _ _ hz2 g1.1 g1'.1 g1'.2.1 g1'.2.2.1
        exact read_txt n _ _ h g3.1 (tokenM_txt hg _ _ _ hz2 g1.1 (skip_fin _ _ _ hz) (hx.move g1.2.2.2.1 g1.2.1))
end

theorem esc_good : ∀ c : Fin 256, (∀ b ∈ escB [39] [123] (UInt8.ofNat c.val), badByte b = false) ∧ (∀ b ∈ escB [34] [] (UInt8.ofNat c.val), badByte b = false) ∧ (∀ b ∈ escB [34, 36] [] (UInt8.ofNat c.val), badByte b = false) ∧ (∀ b ∈ hexF (UInt8.ofNat c.val), badByte b = false) := by decide +kernel
theorem esc_four : ∀ c : Fin 256, (escB [39] [123] (UInt8.ofNat c.val)).length ≤ 4 ∧ (escB [34] [] (UInt8.ofNat c.val)).length ≤ 4 ∧ (escB [34, 36] [] (UInt8.ofNat c.val)).length ≤ 4 := by decide +kernel
theorem escL_good {sl co : List UInt8} (h : ∀ c : UInt8, ∀ b ∈ escB sl co c, badByte b = false) (l : List UInt8) : ∀ b ∈ escL sl co l, badByte b = false := fun b hb => by
  unfold escL at hb
  obtain ⟨c, _, hc⟩ := List.mem_flatMap.1 hb
  exact h c b hc
theorem escL_four {sl co : List UInt8} (h : ∀ c : UInt8, (escB sl co c).length ≤ 4) : ∀ l : List UInt8, (escL sl co l).length ≤ 4 * l.length
  | [] => by simp [escL]
  | c :: l => by
    have := escL_four h l
    have := h c
    unfold escL at *
    simp only [List.flatMap_cons, List.length_append, List.length_cons]
    omega
theorem part_good (b : Bool) (l : List UInt8) : (∀ c ∈ partL b l, badByte c = false) ∧ (partL b l).length ≤ 4 * l.length := by
  have h1 : ∀ c : UInt8, ∀ b ∈ escB [34, 36] [] c, badByte b = false := fun c => by obtain ⟨n, rfl⟩ := fin_byte c; exact (esc_good n).2.2.1
  have h2 : ∀ c : UInt8, ∀ b ∈ hexF c, badByte b = false := fun c => by obtain ⟨n, rfl⟩ := fin_byte c; exact (esc_good n).2.2.2
  have h3 : ∀ c : UInt8, (escB [34, 36] [] c).length ≤ 4 := fun c => by obtain ⟨n, rfl⟩ := fin_byte c; exact (esc_four n).2.2
  cases l with
  | nil => exact ⟨(fun c hc => by cases hc), by simp [partL]⟩
  | cons c l =>
    rw [partL]
    split
    · refine ⟨fun b hb => ?_, ?_⟩
      · rw [List.mem_append] at hb
        rcases hb with hb | hb
        · exact h2 c b hb
        · exact escL_good h1 l b hb
      · have := escL_four h3 l
        simp [hexF]; omega
    · exact ⟨escL_good h1 _, escL_four h3 _⟩
theorem good_raw {t : Tok} (h : goodTok t) (h6 : t.kind ≠ 6) (h7 : t.kind ≠ 7) (h9 : t.kind ≠ 9) : ∀ c ∈ tl t, badByte c = false := by
  rcases h with h | h | h | h
  · exact absurd h h6
  · exact absurd h h7
  · exact absurd h h9
  · exact h
theorem can_good {t : Tok} (h : goodTok t) (p : Nat) : (∀ c ∈ canL p t, badByte c = false) ∧ (canL p t).length ≤ 4 * t.text.size + 2 := by
  have h6 : ∀ c : UInt8, ∀ b ∈ escB [39] [123] c, badByte b = false := fun c => by obtain ⟨n, rfl⟩ := fin_byte c; exact (esc_good n).1
  have h7 : ∀ c : UInt8, ∀ b ∈ escB [34] [] c, badByte b = false := fun c => by obtain ⟨n, rfl⟩ := fin_byte c; exact (esc_good n).2.1
  have k6 : ∀ c : UInt8, (escB [39] [123] c).length ≤ 4 := fun c => by obtain ⟨n, rfl⟩ := fin_byte c; exact (esc_four n).1
  have k7 : ∀ c : UInt8, (escB [34] [] c).length ≤ 4 := fun c => by obtain ⟨n, rfl⟩ := fin_byte c; exact (esc_four n).2.1
  have hlen : (tl t).length = t.text.size := by simp [tl]
  have b39 : badByte 39 = false := by decide
  have b34 : badByte 34 = false := by decide
  have b36 : badByte 36 = false := by decide
  have b76 : badByte 76 = false := by decide
  unfold canL
  by_cases c0 : t.kind = 0 ∨ t.kind = 1
  · rw [if_pos c0]
    have hg : ∀ c ∈ tl t, badByte c = false := good_raw h (by omega) (by omega) (by omega)
    split
    · refine ⟨fun c hc => ?_, by simp [hlen]; omega⟩
      rw [List.mem_cons] at hc
      rcases hc with rfl | hc
      · exact b36
      · exact hg c hc
    · exact ⟨hg, by rw [hlen]; omega⟩
  rw [if_neg c0]
  by_cases c5 : t.kind = 5
  · rw [if_pos c5]
    have hg : ∀ c ∈ tl t, badByte c = false := good_raw h (by omega) (by omega) (by omega)
    refine ⟨fun c hc => ?_, by simp [hlen]; omega⟩
    rw [List.mem_append, List.mem_singleton] at hc
    rcases hc with hc | rfl
    · exact hg c hc
    · exact b76
  rw [if_neg c5]
  by_cases c6 : t.kind = 6
  · rw [if_pos c6]
    refine ⟨fun c hc => ?_, by have := escL_four k6 (tl t); simp; omega⟩
    simp only [List.mem_cons, List.mem_append, List.not_mem_nil, or_false] at hc
    rcases hc with rfl | hc | rfl
    · exact b39
    · exact escL_good h6 _ c hc
    · exact b39
  rw [if_neg c6]
  by_cases c7 : t.kind = 7
  · rw [if_pos c7]
    refine ⟨fun c hc => ?_, by have := escL_four k7 (tl t); simp; omega⟩
    simp only [List.mem_cons, List.mem_append, List.not_mem_nil, or_false] at hc
    rcases hc with rfl | hc | rfl
    · exact b34
    · exact escL_good h7 _ c hc
    · exact b34
  rw [if_neg c7]
  by_cases c8 : t.kind = 8
  · rw [if_pos c8]
    have hg : ∀ c ∈ tl t, badByte c = false := good_raw h (by omega) (by omega) (by omega)
    refine ⟨fun c hc => ?_, by simp [hlen]; omega⟩
    rw [List.mem_append, List.mem_singleton] at hc
    rcases hc with hc | rfl
    · exact hg c hc
    · exact b34
  rw [if_neg c8]
  by_cases c9 : t.kind = 9
  · rw [if_pos c9]
    have := part_good (p == 0 || p == 1) (tl t)
    exact ⟨this.1, by have := this.2; omega⟩
  rw [if_neg c9]
  by_cases c10 : t.kind = 10
  · rw [if_pos c10]
    exact ⟨(fun c hc => by simp at hc; rw [hc]; exact b34), by simp⟩
  rw [if_neg c10]
  have hg : ∀ c ∈ tl t, badByte c = false := good_raw h (by omega) (by omega) (by omega)
  exact ⟨hg, by rw [hlen]; omega⟩
theorem sho_good : ∀ (p : Nat) (l : List Tok), (∀ t ∈ l, goodTok t) → (∀ c ∈ shoL p l, badByte c = false) ∧ (shoL p l).length ≤ 4 * sumT l + 3 * l.length
  | _, [], _ => ⟨(fun c hc => by cases hc), by simp [shoL]⟩
  | p, t :: l, h => by
    have h1 := can_good (h t (by simp)) p
    have h2 := sho_good t.kind l (fun u hu => h u (by simp [hu]))
    have h3 : (∀ c ∈ sepL p t, badByte c = false) ∧ (sepL p t).length ≤ 1 := by
      rcases sep_cases p t with ⟨e, _⟩ | ⟨e, _⟩ <;> rw [e]
      · exact ⟨(fun c hc => by cases hc), by simp⟩
      · exact ⟨(fun c hc => by simp at hc; rw [hc]; decide), by simp⟩
    rw [shoL]
    refine ⟨fun c hc => ?_, ?_⟩
    · simp only [List.mem_append] at hc
      rcases hc with (hc | hc) | hc
      · exact h3.1 c hc
      · exact h1.1 c hc
      · exact h2.1 c hc
    · simp only [List.length_append, sumT, List.length_cons]
      omega

/-- Raw OF THE CANONICAL TEXT OF WHAT Raw RETURNED HAS THE SAME KINDS AND TEXTS. -/
theorem back_model {s : ByteArray} {L : List Tok} (h : rawM s = .ok L) (hs : s.size ≤ 4000) : (shoL 15 L).length ≤ 40000 ∧ (∀ t ∈ L, t.kind ≤ 10) ∧ ∃ l, rawM (bytesOf (shoL 15 L)) = .ok l ∧ l.map kt = L.map kt := by
  obtain ⟨_, hlen, _⟩ := rawM_small h
  unfold rawM at h
  split at h
  · cases h
  · rename_i hc
    have hbad : ∀ i, i < s.size → badByte (bt s i) = false := by
      unfold checkM at hc
      split at hc
      · cases hc
      · split at hc
        · cases hc
        · intro i hi
          have := runM_all (s := s) (f := fun i => !badByte (bt s i)) (p := 0) (i := i) (Nat.zero_le _) (by omega)
          simpa using this
    have hI : Inv 0 s ⟨0, 0, 0, 0, [], []⟩ := ⟨Nat.zero_le _, Nat.le_refl _, Nat.le_refl _, Nat.zero_le _, Nat.zero_le _⟩
    obtain ⟨hgood, hsum⟩ := read_txt hbad _ _ _ h hI ⟨(fun t ht => by cases ht), Nat.le_refl _⟩
    obtain ⟨hb, hl⟩ := sho_good 15 L (fun t ht => (hgood t ht).1)
    have hT : (bytesOf (shoL 15 L)).size = (shoL 15 L).length := by simp [bytesOf, ByteArray.size]
    have hL4 : (shoL 15 L).length ≤ 40000 := by omega
    refine ⟨hL4, fun t ht => (hgood t ht).2, ?_⟩
    have hC : Can (bytesOf (shoL 15 L)) L := ⟨by have := has_self (bytesOf (shoL 15 L)); simpa [bytesOf] using this, hT⟩
    have hck : checkM (bytesOf (shoL 15 L)) = .ok () := by
      unfold checkM
      have hrun : runM (bytesOf (shoL 15 L)) (fun i => !badByte (bt (bytesOf (shoL 15 L)) i)) 0 = (bytesOf (shoL 15 L)).size := by
        refine runM_uniq (Nat.le_refl _) (fun hh => absurd hh (by omega)) _ _ (by omega : (bytesOf (shoL 15 L)).size = 0 + (bytesOf (shoL 15 L)).size) fun i _ hi => ?_
        have h1 := hC.has i (by omega)
        rw [Nat.zero_add] at h1
        have := hb _ (List.getElem_mem (l := shoL 15 L) (n := i) (by omega))
        rw [← h1.2] at this
        simp [this]
      rw [if_neg (by omega), hrun, if_neg (by omega)]
    unfold rawM
    rw [hck]
    exact read_bk hC _ _ _ _ h hI (by simp [lastK]) (by simp [lastK]) ⟨rfl, rfl, rfl⟩ ⟨Nat.zero_le _, Nat.le_refl _, Nat.le_refl _, Nat.zero_le _, Nat.zero_le _⟩ (by show _ < _ + 2 + 0; omega)
end Go.Proofs.YtcdidmohgcegmaaDoor
