/- Package symbols' small functions: the table of permitted flags, hasAny, both, foreign, agrees, isArity, once, isOf, size, has, hasAll, countsFit. Conditions: what each theorem names. -/
import Derived.Test.YtfbaikijnjafbaaGreatDoorRa
namespace Go.Proofs.YtfbaikijnjafbaaGreatDoor
set_option linter.unusedSimpArgs false
set_option linter.unusedVariables false
open Go.RowKit
set_option maxRecDepth 100000

def pmL : List Int := [0, 16495, 29723, 18330, 0, 0, 19840, 18432]
/-- The table of permitted flags lies in block 0. -/
def Gl (w : World) : Prop := 0 < w.heap.size ∧ ∃ t fr, w.heap[0]? = some (.cells (pmL.map I).toArray t fr)
theorem Gl.cell {w : World} (h : Gl w) (i : Nat) (hi : i < 8) : w.cell? ⟨0, i, none⟩ = some (I (pmL.getD i 0)) := by
  obtain ⟨_, t, fr, h⟩ := h
  rw [cell_of_row w 0 i _ _ _ h]
  match i, hi with
  | 0, _ | 1, _ | 2, _ | 3, _ | 4, _ | 5, _ | 6, _ | 7, _ => rfl
theorem Gl.below {B : Nat} {w w' : World} (h : Gl w) (hb : Below B w w') (hB : 0 < B) : Gl w' := by
  obtain ⟨h0, t, fr, h⟩ := h
  exact ⟨Nat.lt_of_lt_of_le h0 hb.size, t, fr, (hb.block 0 hB).trans h⟩

/-- The tables at block T: a program that lies below T. -/
structure TL (w : World) (T : Nat) (P : Prg) : Prop where
  box : w.heap[T]? = some (.cells #[P.cls.v, P.mth.v, P.fld.v, P.tpm.v, P.tym.v, I P.main] 78)
  prg : PrgL (fun k => k < T) w P
theorem TL.move {w w' : World} {T : Nat} {P : Prg} (h : TL w T P) (hb : ∀ k, k ≤ T → w'.heap[k]? = w.heap[k]?) : TL w' T P :=
  ⟨(hb T (Nat.le_refl _)).trans h.box, h.prg.same fun k hk => hb k (Nat.le_of_lt hk)⟩
theorem TL.lt {w : World} {T : Nat} {P : Prg} (h : TL w T P) : T < w.heap.size := (Array.getElem?_eq_some_iff.1 h.box).1
theorem TL.below {w w' : World} {T : Nat} {P : Prg} (h : TL w T P) (hb : Below w.heap.size w w') : TL w' T P := h.move fun k hk => hb.block k (Nat.lt_of_le_of_lt hk h.lt)
theorem TL.cells {w : World} {T : Nat} {P : Prg} (h : TL w T P) :
    w.cell? ⟨T, 0, none⟩ = some (.slice P.cls.a P.cls.l.length P.cls.cap) ∧ w.cell? ⟨T, 1, none⟩ = some (.slice P.mth.a P.mth.l.length P.mth.cap) ∧ w.cell? ⟨T, 2, none⟩ = some (.slice P.fld.a P.fld.l.length P.fld.cap) ∧
    w.cell? ⟨T, 3, none⟩ = some (.slice P.tpm.a P.tpm.l.length P.tpm.cap) ∧ w.cell? ⟨T, 4, none⟩ = some (.slice P.tym.a P.tym.l.length P.tym.cap) ∧ w.cell? ⟨T, 5, none⟩ = some (I P.main) :=
  ⟨cell_of_row w T 0 _ _ _ h.box, cell_of_row w T 1 _ _ _ h.box, cell_of_row w T 2 _ _ _ h.box, cell_of_row w T 3 _ _ _ h.box, cell_of_row w T 4 _ _ _ h.box, cell_of_row w T 5 _ _ _ h.box⟩
abbrev ptr (T : Nat) : Value := .pointer (some ⟨T, 0, none⟩)
/-- It answers v, and what lay below lies so. -/
def Bof (w : World) (v : Value) (e : Ending) (w' : World) : Prop := e = .returned v ∧ Below w.heap.size w w'

def hasB (a b : Int) : Bool := bits BinOp.and .i64 a b != 0
theorem hasAny_any (a b : Int) (w : World) : Calls Tryz.prog 102 #[I a, I b] w fun e w' => e = .returned (.bool (hasB a b)) ∧ w = w' := by
  unfold hasB
  go_enter Tryz.func102, Tryz.ntmps102
  go_wp2_with fail
  go_ret
  exact ⟨rfl, rfl⟩

def bothB (f a b : Int) : Bool := hasB f a && hasB f b
theorem both_any (f a b : Int) (w : World) : Calls Tryz.prog 108 #[I f, I a, I b] w fun e w' => e = .returned (.bool (bothB f a b)) ∧ w = w' := by
  unfold bothB
  cases e1 : hasB f a with
  | false =>
    rw [Bool.false_and]
    go_enter Tryz.func108, Tryz.ntmps108
    go_wp2_with (first | (go_at_call 102; refine (hasAny_any _ _ _).mono ?_; rintro e w2 ⟨rfl, rfl⟩; dsimp only; rw [e1]))
    go_ret
    exact ⟨rfl, rfl⟩
  | true =>
    rw [Bool.true_and]
    generalize e2 : hasB f b = r
    go_enter Tryz.func108, Tryz.ntmps108
    go_wp2_with (first | (go_at_call 102; refine (hasAny_any _ _ _).mono ?_; rintro e w2 ⟨rfl, rfl⟩; dsimp only; (first | rw [e1] | rw [e2])))
    go_ret
    exact ⟨rfl, rfl⟩

def foreignB (part : Nat) (f : Int) : Bool := bits BinOp.andNot .i64 f (pmL.getD part 0) != 0
theorem foreign_any (part : Nat) (hp : part < 8) (f : Int) (w : World) (hg : Gl w) : Calls Tryz.prog 95 #[I part, I f] w fun e w' => e = .returned (.bool (foreignB part f)) ∧ w = w' := by
  unfold foreignB
  have h0 := hg.cell part hp
  generalize pmL.getD part 0 = m at *
  have hp' : (part : Int) < 8 := by omega
  clear hg hp
  go_enter Tryz.func95, Tryz.ntmps95
  go_wp2_with fail
  go_ret
  exact ⟨rfl, rfl⟩

def agreesB (k f : Int) : Bool := if bothB f 1 2 then false else if k == 1 then !hasB f 98 else if k == 2 then !hasB f 69 else true
theorem agrees_any (k f : Int) (w : World) : Calls Tryz.prog 96 #[I k, I f] w fun e w' => e = .returned (.bool (agreesB k f)) ∧ w = w' := by
  unfold agreesB
  cases e1 : bothB f 1 2 with
  | true =>
    rw [if_pos rfl]
    go_enter Tryz.func96, Tryz.ntmps96
    go_wp2_with (first | (go_at_call 108; refine (both_any _ _ _ _).mono ?_; rintro e w2 ⟨rfl, rfl⟩; dsimp only; rw [e1]))
    go_ret
    exact ⟨rfl, rfl⟩
  | false =>
    rw [if_neg (by simp)]
    cases e2 : k == 1 with
    | true =>
      rw [if_pos rfl]
      go_enter Tryz.func96, Tryz.ntmps96
      go_wp2_with (first | (go_at_call 108; refine (both_any _ _ _ _).mono ?_; rintro e w2 ⟨rfl, rfl⟩; dsimp only; rw [e1]) | (go_at_call 102; refine (hasAny_any _ _ _).mono ?_; rintro e w2 ⟨rfl, rfl⟩; dsimp only))
      go_ret
      exact ⟨rfl, rfl⟩
    | false =>
      rw [if_neg (by simp)]
      cases e3 : k == 2 with
      | true =>
        rw [if_pos rfl]
        go_enter Tryz.func96, Tryz.ntmps96
        go_wp2_with (first | (go_at_call 108; refine (both_any _ _ _ _).mono ?_; rintro e w2 ⟨rfl, rfl⟩; dsimp only; rw [e1]) | (go_at_call 102; refine (hasAny_any _ _ _).mono ?_; rintro e w2 ⟨rfl, rfl⟩; dsimp only))
        go_ret
        exact ⟨rfl, rfl⟩
      | false =>
        rw [if_neg (by simp)]
        go_enter Tryz.func96, Tryz.ntmps96
        go_wp2_with (first | (go_at_call 108; refine (both_any _ _ _ _).mono ?_; rintro e w2 ⟨rfl, rfl⟩; dsimp only; rw [e1]))
        go_ret
        exact ⟨rfl, rfl⟩

def arityB (n : Int) : Bool := decide (0 ≤ n) && decide (n ≤ 12)
theorem isArity_any (n : Int) (w : World) : Calls Tryz.prog 109 #[I n] w fun e w' => e = .returned (.bool (arityB n)) ∧ w = w' := by
  unfold arityB
  by_cases h : 0 ≤ n
  · have d1 : decide (0 ≤ n) = true := decide_eq_true h
    rw [d1, Bool.true_and]
    clear h
    go_enter Tryz.func109, Tryz.ntmps109
    go_wp2_with fail
    go_ret
    exact ⟨rfl, rfl⟩
  · have d1 : decide (0 ≤ n) = false := decide_eq_false h
    rw [d1, Bool.false_and]
    clear h
    go_enter Tryz.func109, Tryz.ntmps109
    go_wp2_with fail
    go_ret
    exact ⟨rfl, rfl⟩

theorem once_any (b : Bool) (w : World) : Calls Tryz.prog 112 #[.bool b] w fun e w' => e = .returned (I (if b then 28 else 0)) ∧ w = w' := by
  cases b
  · go_enter Tryz.func112, Tryz.ntmps112
    go_wp2_with fail
    go_ret
    exact ⟨rfl, rfl⟩
  · go_enter Tryz.func112, Tryz.ntmps112
    go_wp2_with fail
    go_ret
    exact ⟨rfl, rfl⟩

def isOfB (t : Ty) (c : Int) : Bool := t.k == 10 && t.s == c
theorem isOf_any (t : Ty) (c : Int) (w : World) : Calls Tryz.prog 42 #[.agg t.cells.toArray, I c] w (Bof w (.bool (isOfB t c))) := by
  unfold isOfB Bof
  obtain ⟨k, s, nm, n, args⟩ := t
  have hB := (Below.refl w.heap.size w).alloc (Nat.le_refl _) (.cells (Ty.mk k s nm n args).cells.toArray 60)
  show Calls Tryz.prog 42 #[.agg #[I k, I s, .string nm, I n, .slice args.a args.l.length args.cap], I c] w _
  dsimp only [Ty.k, Ty.s]
  have HB := Lib.hid hB
  clear hB
  cases e1 : k == 10 with
  | false =>
    rw [Bool.false_and]
    go_enter Tryz.func42, Tryz.ntmps42
    go_wp2_with fail
    go_ret
    exact ⟨rfl, HB.out⟩
  | true =>
    rw [Bool.true_and]
    go_enter Tryz.func42, Tryz.ntmps42
    go_wp2_with fail
    go_ret
    exact ⟨rfl, HB.out⟩
end Go.Proofs.YtfbaikijnjafbaaGreatDoor
