/- The reader of package tokens as plain Lean functions over bytes. No condition; nothing of memory. -/
import Derived.Test.YtcdidmohgcegmaaDoorKw
namespace Go.Proofs.YtcdidmohgcegmaaDoor

def bt (s : ByteArray) (i : Nat) : UInt8 := s.data.toList.getD i 0
theorem bt_at (s : ByteArray) (i : Nat) (h : i < s.size) : s[i] = bt s i := Go.Lib.getD_at s i h
def fol (s : ByteArray) (p : Nat) (l : ByteArray) : Bool := hpM (s.extract p s.size) l

/-- The end of the bytes from p on of which f holds. -/
def runK (s : ByteArray) (f : Nat → Bool) : Nat → Nat → Nat
  | 0, p => p
  | k + 1, p => if decide (p < s.size) && f p then runK s f k (p + 1) else p
def runM (s : ByteArray) (f : Nat → Bool) (p : Nat) : Nat := runK s f (s.size - p) p
theorem runM_yes {s : ByteArray} {f : Nat → Bool} {p : Nat} (h : p < s.size) (hf : f p = true) : runM s f p = runM s f (p + 1) := by
  unfold runM
  rw [show s.size - p = (s.size - (p + 1)) + 1 by omega, runK]
  simp [h, hf]
theorem runM_no {s : ByteArray} {f : Nat → Bool} {p : Nat} (hf : f p = false) : runM s f p = p := by
  unfold runM
  cases s.size - p with
  | zero => rfl
  | succ n => simp [runK, hf]
theorem runM_end {s : ByteArray} {f : Nat → Bool} {p : Nat} (h : s.size ≤ p) : runM s f p = p := by
  unfold runM
  rw [show s.size - p = 0 by omega]; rfl
theorem runK_le (s : ByteArray) (f : Nat → Bool) : ∀ k p, p ≤ s.size → p ≤ runK s f k p ∧ runK s f k p ≤ s.size
  | 0, p, h => ⟨Nat.le_refl _, h⟩
  | k + 1, p, h => by
    unfold runK
    split
    · rename_i hc
      have hp : p < s.size := by simp only [Bool.and_eq_true, decide_eq_true_eq] at hc; exact hc.1
      have := runK_le s f k (p + 1) hp
      omega
    · exact ⟨Nat.le_refl _, h⟩
theorem runM_le (s : ByteArray) (f : Nat → Bool) (p : Nat) (h : p ≤ s.size) : p ≤ runM s f p ∧ runM s f p ≤ s.size := runK_le s f _ p h

def wordEndM (s : ByteArray) (p : Nat) : Nat := runM s (fun i => inWordM (bt s i)) p
def digEndM (s : ByteArray) (p : Nat) : Nat := runM s (fun i => clsM (bt s i) == 3) p
def opEndM (s : ByteArray) (p : Nat) : Nat := runM s (fun i => clsM (bt s i) == 4 && !bcM (s.extract i s.size)) p
def lineEndM (s : ByteArray) (p : Nat) : Nat := runM s (fun i => bt s i != 10) p

def putM (r : Rd) (kind : Nat) (text : ByteArray) (en : Nat) : Rd := { r with pos := en, list := r.list ++ [⟨kind, text, r.start, r.line, r.start - r.ls⟩] }
def lfM (r : Rd) : Rd := { r with pos := r.pos + 1, line := r.line + 1, ls := r.pos + 1 }

def commentK (s : ByteArray) : Nat → Rd → Nat → Option Rd
  | 0, _, _ => none
  | k + 1, r, d =>
    if r.pos < s.size then
      if fol s r.pos ⟨#[47, 42]⟩ then commentK s k { r with pos := r.pos + 2 } (d + 1)
      else if fol s r.pos ⟨#[42, 47]⟩ then (if d - 1 = 0 then some { r with pos := r.pos + 2 } else commentK s k { r with pos := r.pos + 2 } (d - 1))
      else if fol s r.pos ⟨#[10]⟩ then commentK s k (lfM r) d
      else commentK s k { r with pos := r.pos + 1 } d
    else none
def commentM (s : ByteArray) (r : Rd) : Option Rd := commentK s (s.size + 1 - r.pos) r 0

def skipK (s : ByteArray) : Nat → Rd → Except Flt (Bool × Rd)
  | 0, r => .ok (false, r)
  | k + 1, r =>
    if r.pos < s.size then
      if fol s r.pos ⟨#[10]⟩ then skipK s k (lfM r)
      else if clsM (bt s r.pos) = 1 then skipK s k { r with pos := r.pos + 1 }
      else if fol s r.pos ⟨#[47, 47]⟩ then skipK s k { r with pos := lineEndM s r.pos }
      else if fol s r.pos ⟨#[47, 42]⟩ then
        match commentM s r with
        | none => .error ⟨r.pos, 27⟩
        | some r' => skipK s k r'
      else .ok (true, r)
    else .ok (false, r)
def skipM (s : ByteArray) (r : Rd) : Except Flt (Bool × Rd) := skipK s (s.size + 1 - r.pos) r

def putNamedM (s : ByteArray) (r : Rd) (kind en : Nat) : Except Flt Rd :=
  if 64 < (s.extract r.start en).size then .error ⟨r.start, 18⟩ else .ok (putM r kind (s.extract r.start en) en)
def lastOp (r : Rd) : ByteArray × Nat := r.opn.getLastD (ByteArray.empty, 0)
def putMarkM (r : Rd) (mark : ByteArray) : Except Flt Rd :=
  if (closerM mark).toList.isEmpty then
    if closesM mark then
      if r.opn.length = 0 then .error ⟨r.start, 27⟩
      else if (closerM (lastOp r).1).toList == mark.toList then .ok (putM { r with opn := r.opn.dropLast } 3 mark (r.start + mark.size))
      else .error ⟨r.start, 27⟩
    else .ok (putM r 3 mark (r.start + mark.size))
  else if r.opn.length = 64 then .error ⟨r.start, 8⟩
  else .ok (putM { r with opn := r.opn ++ [(mark, r.start)] } 3 mark (r.start + mark.size))

def gI : ByteArray := ⟨#[50, 49, 52, 55, 52, 56, 51, 54, 52, 55]⟩
def gL : ByteArray := ⟨#[57, 50, 50, 51, 51, 55, 50, 48, 51, 54, 56, 53, 52, 55, 55, 53, 56, 48, 55]⟩
def numberM (s : ByteArray) (r : Rd) : Except Flt Rd :=
  let e0 := digEndM s r.pos
  let digits := s.extract r.pos e0
  let long := decide (e0 < s.size) && decide ((bt s e0).toNat = 76)
  let en := if long then e0 + 1 else e0
  if (decide (1 < digits.size) && decide ((bt s r.pos).toNat = 48)) || decide (en < wordEndM s en) then .error ⟨r.start, 27⟩
  else if exceedsM digits (if long then gL else gI) then .error ⟨r.start, 25⟩
  else .ok (putM r (if long then 5 else 4) digits en)
def operatorM (s : ByteArray) (r : Rd) : Except Flt Rd :=
  let en := opEndM s r.pos
  if signMarkM (s.extract r.pos en) then putMarkM r (s.extract r.pos en) else putNamedM s r 2 en

def unescM (t : ByteArray) : UInt8 × Nat :=
  if t.size = 0 then (0, 0)
  else if (bt t 0).toNat = 110 then (10, 1)
  else if (bt t 0).toNat = 116 then (9, 1)
  else if (bt t 0).toNat = 92 ∨ (bt t 0).toNat = 39 ∨ (bt t 0).toNat = 34 ∨ (bt t 0).toNat = 36 then (bt t 0, 1)
  else if (bt t 0).toNat = 120 then
    if t.size < 3 then (0, 0)
    else if 0 ≤ hexM (bt t 1) ∧ 0 ≤ hexM (bt t 2) then (UInt8.ofNat (hexM (bt t 1) * 16 + hexM (bt t 2)).toNat, 3)
    else (0, 0)
  else (0, 0)
def characterM (s : ByteArray) (p : Nat) : Option (UInt8 × Nat) :=
  if (bt s p).toNat = 92 then
    (if (unescM (s.extract (p + 1) s.size)).2 = 0 then none else some ((unescM (s.extract (p + 1) s.size)).1, p + 1 + (unescM (s.extract (p + 1) s.size)).2))
  else some (bt s p, p + 1)
def charsK (s : ByteArray) (e o : Int) (st : Nat) : Nat → Nat → List UInt8 → Except Flt (List UInt8 × Nat)
  | 0, _, _ => .error ⟨st, 27⟩
  | k + 1, p, acc =>
    if p < s.size ∧ 32 ≤ (bt s p).toNat then
      if ((bt s p).toNat : Int) = e ∨ ((bt s p).toNat : Int) = o then .ok (acc, p)
      else match characterM s p with
        | none => .error ⟨st, 27⟩
        | some (b, p') => charsK s e o st k p' (acc ++ [b])
    else .error ⟨st, 27⟩
def charsM (s : ByteArray) (e o : Int) (st p : Nat) : Except Flt (List UInt8 × Nat) := charsK s e o st (s.size + 1 - p) p []
def bytesOf (l : List UInt8) : ByteArray := ⟨l.toArray⟩

def charM (s : ByteArray) (r : Rd) : Except Flt Rd :=
  if fol s r.pos ⟨#[39, 123]⟩ then putMarkM r ⟨#[39, 123]⟩
  else match charsM s 39 39 r.start (r.pos + 1) with
    | .error f => .error f
    | .ok (l, p) => if l.length = 1 then .ok (putM r 6 (bytesOf l) (p + 1)) else .error ⟨r.start, 27⟩
def plainM (s : ByteArray) (r : Rd) : Except Flt Rd :=
  match charsM s 34 34 r.start (r.pos + 1) with
  | .error f => .error f
  | .ok (l, p) => .ok (putM r 7 (bytesOf l) (p + 1))
def spliceM (s : ByteArray) (r : Rd) : Except Flt Rd := if fol s r.pos ⟨#[36, 123]⟩ then putMarkM r ⟨#[36, 123]⟩ else .error ⟨r.start, 27⟩
def partM (s : ByteArray) (r : Rd) : Except Flt (Bool × Rd) :=
  match charsM s 34 36 r.pos r.pos with
  | .error f => .error f
  | .ok (l, p) => .ok (decide ((bt s p).toNat = 36), putM { r with start := r.pos } 9 (bytesOf l) p)

section
variable (tok : Rd → Except Flt Rd) (s : ByteArray)
def splicedK (outer : Nat) : Nat → Rd → Except Flt Rd
  | 0, _ => .error ⟨0, 0⟩
  | k + 1, r =>
    if outer < r.opn.length then
      match skipM s r with
      | .error f => .error f
      | .ok (false, r') => .error ⟨(lastOp r').2, 27⟩
      | .ok (true, r') => match tok r' with
        | .error f => .error f
        | .ok r'' => splicedK outer k r''
    else .ok r
def splicedM (r : Rd) : Except Flt Rd :=
  match putMarkM r ⟨#[36, 123]⟩ with
  | .error f => .error f
  | .ok r' => splicedK tok s r.opn.length (s.size + 1 - r'.pos) r'
def exprM (r : Rd) : Except Flt Rd :=
  if fol s r.pos ⟨#[36, 123]⟩ then splicedM tok s { r with start := r.pos }
  else
    let en := wordEndM s (r.pos + 1)
    let name := s.extract (r.pos + 1) en
    if name.toList.isEmpty || name.toList == [95] || decide (clsM (bt name 0) ≠ 2) then .error ⟨r.pos, 27⟩
    else putNamedM s { r with start := r.pos + 1 } (if keywordM name then 1 else 0) en
def interpK : Nat → Rd → Except Flt Rd
  | 0, _ => .error ⟨0, 0⟩
  | k + 1, r =>
    match partM s r with
    | .error f => .error f
    | .ok (false, r') => .ok (putM { r' with start := r'.pos } 10 ⟨#[]⟩ (r'.pos + 1))
    | .ok (true, r') => match exprM tok s r' with
      | .error f => .error f
      | .ok r'' => interpK k r''
def interpM (r : Rd) : Except Flt Rd := interpK tok s (s.size + 1 - r.pos) r
def wordM (r : Rd) : Except Flt Rd :=
  let en := wordEndM s r.pos
  let text := s.extract r.pos en
  if text.toList == [95] then putMarkM r text
  else if keywordM text then putNamedM s r 1 en
  else if fol s en ⟨#[34]⟩ then
    match putNamedM s r 8 en with
    | .error f => .error f
    | .ok r' => interpM tok s { r' with pos := en + 1 }
  else putNamedM s r 0 en
def tokenF (r : Rd) : Except Flt Rd :=
  let r1 : Rd := { r with start := r.pos }
  if clsM (bt s r.pos) = 2 then wordM tok s r1
  else if clsM (bt s r.pos) = 3 then numberM s r1
  else if clsM (bt s r.pos) = 4 then operatorM s r1
  else if clsM (bt s r.pos) = 5 then putMarkM r1 (s.extract r.pos (r.pos + 1))
  else if clsM (bt s r.pos) = 6 then charM s r1
  else if clsM (bt s r.pos) = 7 then plainM s r1
  else if clsM (bt s r.pos) = 8 then spliceM s r1
  else .error ⟨r.pos, 27⟩
end
def tokenM (s : ByteArray) : Nat → Rd → Except Flt Rd
  | 0, _ => .error ⟨0, 0⟩
  | n + 1, r => tokenF (tokenM s n) s r

def badByte (b : UInt8) : Bool := decide (b.toNat ≠ 9) && decide (b.toNat ≠ 10) && (decide (b.toNat < 32) || decide (126 < b.toNat))
def checkM (s : ByteArray) : Except Flt Unit :=
  if 65536 < s.size then .error ⟨0, 18⟩
  else if runM s (fun i => !badByte (bt s i)) 0 < s.size then .error ⟨runM s (fun i => !badByte (bt s i)) 0, 27⟩ else .ok ()
def readK (s : ByteArray) : Nat → Rd → Except Flt (List Tok)
  | 0, _ => .error ⟨0, 0⟩
  | k + 1, r =>
    match skipM s r with
    | .error f => .error f
    | .ok (false, r') => if r'.opn.length = 0 then .ok r'.list else .error ⟨(lastOp r').2, 27⟩
    | .ok (true, r') => match tokenM s (s.size + 1 - r'.pos) r' with
      | .error f => .error f
      | .ok r'' => readK s k r''
def rawM (s : ByteArray) : Except Flt (List Tok) :=
  match checkM s with
  | .error f => .error f
  | .ok () => readK s (s.size + 2) ⟨0, 0, 0, 0, [], []⟩
end Go.Proofs.YtcdidmohgcegmaaDoor
