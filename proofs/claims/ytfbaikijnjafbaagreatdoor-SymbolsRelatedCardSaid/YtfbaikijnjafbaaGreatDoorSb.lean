/- size, has, hasAll, countsFit, hasLists of package symbols. Conditions: what each theorem names. -/
import Derived.Test.YtfbaikijnjafbaaGreatDoorSa
namespace Go.Proofs.YtfbaikijnjafbaaGreatDoor
set_option linter.unusedSimpArgs false
set_option linter.unusedVariables false
open Go.RowKit
set_option maxRecDepth 100000

def sizeM (P : Prg) (part : Int) : Nat := if part == 1 then P.cls.l.length else if part == 2 then P.mth.l.length else if part == 3 then P.fld.l.length else if part == 4 then P.tpm.l.length else if part == 5 then P.tym.l.length else 0
theorem size_any (P : Prg) (T : Nat) (part : Int) (w : World) (h : TL w T P) : Calls Tryz.prog 31 #[ptr T, I part] w fun e w' => e = .returned (I (sizeM P part : Nat)) ∧ w = w' := by
  obtain ⟨c0, c1, c2, c3, c4, c5⟩ := h.cells
  clear h
  unfold sizeM
  cases e1 : part == 1 with
  | true =>
    rw [if_pos rfl]
    go_enter Tryz.func31, Tryz.ntmps31
    go_wp2_with fail
    go_ret
    exact ⟨rfl, rfl⟩
  | false =>
    rw [if_neg (by simp)]
    cases e2 : part == 2 with
    | true =>
      rw [if_pos rfl]
      go_enter Tryz.func31, Tryz.ntmps31
      go_wp2_with fail
      go_ret
      exact ⟨rfl, rfl⟩
    | false =>
      rw [if_neg (by simp)]
      cases e3 : part == 3 with
      | true =>
        rw [if_pos rfl]
        go_enter Tryz.func31, Tryz.ntmps31
        go_wp2_with fail
        go_ret
        exact ⟨rfl, rfl⟩
      | false =>
        rw [if_neg (by simp)]
        cases e4 : part == 4 with
        | true =>
          rw [if_pos rfl]
          go_enter Tryz.func31, Tryz.ntmps31
          go_wp2_with fail
          go_ret
          exact ⟨rfl, rfl⟩
        | false =>
          rw [if_neg (by simp)]
          cases e5 : part == 5 with
          | true =>
            rw [if_pos rfl]
            go_enter Tryz.func31, Tryz.ntmps31
            go_wp2_with fail
            go_ret
            exact ⟨rfl, rfl⟩
          | false =>
            rw [if_neg (by simp)]
            go_enter Tryz.func31, Tryz.ntmps31
            go_wp2_with fail
            go_ret
            exact ⟨rfl, rfl⟩

theorem has_any (P : Prg) (T : Nat) (part i : Int) (w : World) (h : TL w T P) : Calls Tryz.prog 41 #[ptr T, I part, I i] w fun e w' => e = .returned (.bool (inM i (sizeM P part))) ∧ w = w' := by
  have HH := Lib.hid h
  clear h
  unfold inM
  by_cases hi : 0 ≤ i
  · have d1 : decide (0 ≤ i) = true := decide_eq_true hi
    rw [d1, Bool.true_and]
    clear hi
    go_enter Tryz.func41, Tryz.ntmps41
    go_wp2_with (first | (go_at_call 31; refine (size_any P T _ _ HH.out).mono ?_; rintro e w2 ⟨rfl, rfl⟩; dsimp only))
    go_ret
    exact ⟨rfl, rfl⟩
  · have d1 : decide (0 ≤ i) = false := decide_eq_false hi
    rw [d1, Bool.false_and]
    clear hi
    go_enter Tryz.func41, Tryz.ntmps41
    go_wp2_with fail
    go_ret
    exact ⟨rfl, rfl⟩

def allIn (n : Nat) (l : List Int) : Bool := l.all fun i => inM i n
theorem hasAll_any {ok : Nat → Prop} (P : Prg) (T : Nat) (part : Int) (a : Option Addr) (cap : Nat) (l : List Int) (w : World) (h : TL w T P) (hs : IntsL ok w ⟨a, cap, l⟩) : Calls Tryz.prog 105 #[ptr T, I part, .slice a l.length cap] w fun e w' => e = .returned (.bool (allIn (sizeM P part) l)) ∧ w = w' := by
  have hl : l.length ≤ 140737488355328 := by
    have h1 := hs.1.1; have h2 := hs.1.2.1
    dsimp only at h1 h2
    omega
  generalize hres : allIn (sizeM P part) l = res
  have HR := Lib.hid hres
  have HS := Lib.hid hs
  have HL := Lib.hid hl
  have HH := Lib.hid h
  clear hs hl hres h
  go_enter Tryz.func105, Tryz.ntmps105
  go_wp2_with fail
  go_loopg [11] (l.length + 1) (fun n v wr => ∃ i : Nat, i ≤ l.length ∧ v = .int .i64 i ∧ Hid (n = l.length + 1 - i) ∧ Hid (allIn (sizeM P part) (l.drop i) = res) ∧ wr = w)
  case atStart => exact ⟨0, by omega, rfl, rfl, HR.out, rfl⟩
  case round =>
    obtain ⟨i, hi, rfl, HN, HD, rfl⟩ := hrel
    by_cases hlt : i < l.length
    · have d2 : ((i : Int) < (l.length : Int)) := by omega
      obtain ⟨b, o, ha, hok, hcs⟩ := sl_at HS.out.1 (by show 0 < l.length; omega)
      dsimp only at ha
      subst ha
      have ht : wr.cell? ⟨b, o + i, none⟩ = some (I l[i]) := by have := hcs i hlt 0 (by simp); simpa using this
      have HD2 : Hid ((inM l[i] (sizeM P part) && allIn (sizeM P part) (l.drop (i + 1))) = res) := by have := HD.out; rw [List.drop_eq_getElem_cons hlt] at this; exact this
      clear hcs hok HD
      generalize l[i] = y at *
      cases e1 : inM y (sizeM P part) with
      | false =>
        obtain rfl : false = res := by have := HD2.out; rw [e1, Bool.false_and] at this; exact this
        go_wp2_with (first | (go_at_call 41; refine (has_any P T _ _ _ HH.out).mono ?_; rintro e w2 ⟨rfl, rfl⟩; dsimp only; rw [e1]))
        go_ret
        exact ⟨rfl, rfl⟩
      | true =>
        have HD3 : Hid (allIn (sizeM P part) (l.drop (i + 1)) = res) := by have := HD2.out; rw [e1, Bool.true_and] at this; exact this
        clear HD2
        go_wp2_with (first | (go_at_call 41; refine (has_any P T _ _ _ HH.out).mono ?_; rintro e w2 ⟨rfl, rfl⟩; dsimp only; rw [e1]))
        have := HL.out
        go_roundg (l.length + 1 - (i + 1))
        case measure => have := HN.out; omega
        case rel => exact ⟨i + 1, by omega, by first | go_num | (rw [IntWalk.wrap64_in _ (by omega)]; go_num), rfl, HD3, rfl⟩
    · obtain rfl : i = l.length := by omega
      have : true = res := by have := HD.out; rw [List.drop_length] at this; exact this
      subst this
      go_wp2_with fail
      go_ret
      exact ⟨rfl, rfl⟩

theorem cls_agg (T : Cls) : Value.agg T.cells.toArray = .agg #[.string T.nm, I T.kind, I T.flags, I T.owner, .slice T.tps.a T.tps.l.length T.tps.cap, .slice T.pars.a T.pars.l.length T.pars.cap, .slice T.prms.a T.prms.l.length T.prms.cap, .slice T.flds.a T.flds.l.length T.flds.cap,
    .slice T.mths.a T.mths.l.length T.mths.cap, .slice T.tys.a T.tys.l.length T.tys.cap, .slice T.sups.a T.sups.l.length T.sups.cap, .slice T.ini.a T.ini.l.length T.ini.cap, I T.p] := rfl

def countsB (c : Cls) : Bool :=
  if decide (12 < (c.tps.l.length : Int)) || decide (12 < (c.prms.l.length : Int)) then false
  else if c.kind != 0 && decide (0 < (c.prms.l.length : Int)) then false
  else c.kind != 2 || (c.tps.l.length : Int) == 0
set_option maxHeartbeats 800000 in
theorem countsFit_any (c : Cls) (w : World) : Calls Tryz.prog 99 #[.agg c.cells.toArray] w (Bof w (.bool (countsB c))) := by
  rw [cls_agg]
  obtain ⟨nm, kind, flags, owner, ⟨ta, tc, tl⟩, pars, ⟨pa, pc, pl⟩, flds, mths, tys, sups, ini, p⟩ := c
  unfold countsB Bof
  dsimp only
  generalize tl.length = t
  generalize pl.length = q
  cases a1 : decide (12 < (t : Int)) with
  | true =>
    simp only [Bool.true_or, if_true]
    go_enter Tryz.func99, Tryz.ntmps99
    go_wp2_with fail
    go_ret
    exact ⟨rfl, (Below.refl _ _).alloc (Nat.le_refl _) _⟩
  | false =>
    cases a2 : decide (12 < (q : Int)) with
    | true =>
      simp only [Bool.or_true, if_true]
      go_enter Tryz.func99, Tryz.ntmps99
      go_wp2_with fail
      go_ret
      exact ⟨rfl, (Below.refl _ _).alloc (Nat.le_refl _) _⟩
    | false =>
      simp only [Bool.or_false, Bool.false_eq_true, if_false]
      cases a3 : kind != 0 with
      | true =>
        cases a4 : decide (0 < (q : Int)) with
        | true =>
          simp only [Bool.and_true, if_true]
          have a4n : decide (0 < q) = true := by simpa using a4
          go_enter Tryz.func99, Tryz.ntmps99
          go_wp2_with fail
          go_ret
          exact ⟨rfl, (Below.refl _ _).alloc (Nat.le_refl _) _⟩
        | false =>
          simp only [Bool.and_false, Bool.false_eq_true, if_false]
          have a4n : decide (0 < q) = false := by simpa using a4
          cases a5 : kind != 2 with
          | true =>
            rw [Bool.true_or]
            go_enter Tryz.func99, Tryz.ntmps99
            go_wp2_with fail
            go_ret
            exact ⟨rfl, (Below.refl _ _).alloc (Nat.le_refl _) _⟩
          | false =>
            rw [Bool.false_or]
            go_enter Tryz.func99, Tryz.ntmps99
            go_wp2_with fail
            go_ret
            exact ⟨rfl, (Below.refl _ _).alloc (Nat.le_refl _) _⟩
      | false =>
        simp only [Bool.false_and, Bool.false_eq_true, if_false]
        cases a5 : kind != 2 with
        | true =>
          rw [Bool.true_or]
          go_enter Tryz.func99, Tryz.ntmps99
          go_wp2_with fail
          go_ret
          exact ⟨rfl, (Below.refl _ _).alloc (Nat.le_refl _) _⟩
        | false =>
          rw [Bool.false_or]
          go_enter Tryz.func99, Tryz.ntmps99
          go_wp2_with fail
          go_ret
          exact ⟨rfl, (Below.refl _ _).alloc (Nat.le_refl _) _⟩

def listsB (P : Prg) (c : Cls) : Bool :=
  (((allIn (sizeM P 4) c.tps.l && allIn (sizeM P 3) c.prms.l) && allIn (sizeM P 3) c.flds.l) && allIn (sizeM P 2) c.mths.l) && allIn (sizeM P 5) c.tys.l
set_option maxHeartbeats 1600000 in
theorem hasLists_any {ok : Nat → Prop} (P : Prg) (T : Nat) (c : Cls) (w : World) (h : TL w T P) (hc : ClsL ok w c) (hok : ∀ k, ok k → k < w.heap.size) :
    Calls Tryz.prog 97 #[ptr T, .agg c.cells.toArray] w (Bof w (.bool (listsB P c))) := by
  have hB : Below w.heap.size w (w.alloc (.cells #[.string c.nm, I c.kind, I c.flags, I c.owner, .slice c.tps.a c.tps.l.length c.tps.cap, .slice c.pars.a c.pars.l.length c.pars.cap, .slice c.prms.a c.prms.l.length c.prms.cap, .slice c.flds.a c.flds.l.length c.flds.cap,
    .slice c.mths.a c.mths.l.length c.mths.cap, .slice c.tys.a c.tys.l.length c.tys.cap, .slice c.sups.a c.sups.l.length c.sups.cap, .slice c.ini.a c.ini.l.length c.ini.cap, I c.p] 54)) := (Below.refl _ _).alloc (Nat.le_refl _) _
  have HH := Lib.hid (h.below hB)
  obtain ⟨_, _, ⟨i1, i2, i3, i4, i5⟩, _⟩ := hc
  have hk : ∀ k, ok k → _ := fun k hk => hB.block k (hok k hk)
  have H1 := Lib.hid (i1.same hk)
  have H2 := Lib.hid (i2.same hk)
  have H3 := Lib.hid (i3.same hk)
  have H4 := Lib.hid (i4.same hk)
  have H5 := Lib.hid (i5.same hk)
  have HB := Lib.hid hB
  clear h hB i1 i2 i3 i4 i5 hk hok
  rw [cls_agg]
  obtain ⟨nm, kind, flags, owner, ⟨ta, tc, tl⟩, ⟨ra, rc, rl⟩, ⟨pa, pc, pl⟩, ⟨fa, fc, fl⟩, ⟨ma, mc, ml⟩, ⟨ya, yc, yl⟩, ⟨sa, sc, sl⟩, ⟨na, nc, nl⟩, p⟩ := c
  unfold listsB Bof
  dsimp only at *
  cases a1 : allIn (sizeM P 4) tl with
  | false =>
    simp only [Bool.false_and]
    go_enter Tryz.func97, Tryz.ntmps97
    go_wp2_with (first | (go_at_call 105; refine (hasAll_any P T _ _ _ _ _ HH.out (by first | exact H1.out)).mono ?_; rintro e w2 ⟨rfl, rfl⟩; dsimp only; rw [a1]))
    go_ret
    exact ⟨rfl, HB.out⟩
  | true =>
    cases a2 : allIn (sizeM P 3) pl with
    | false =>
      simp only [Bool.true_and, Bool.false_and]
      go_enter Tryz.func97, Tryz.ntmps97
      go_wp2_with (first | (go_at_call 105; refine (hasAll_any P T _ _ _ _ _ HH.out (by first | exact H1.out | exact H2.out)).mono ?_; rintro e w2 ⟨rfl, rfl⟩; dsimp only; first | rw [a1] | rw [a2]))
      go_ret
      exact ⟨rfl, HB.out⟩
    | true =>
      cases a3 : allIn (sizeM P 3) fl with
      | false =>
        simp only [Bool.true_and, Bool.false_and]
        go_enter Tryz.func97, Tryz.ntmps97
        go_wp2_with (first | (go_at_call 105; refine (hasAll_any P T _ _ _ _ _ HH.out (by first | exact H1.out | exact H2.out | exact H3.out)).mono ?_; rintro e w2 ⟨rfl, rfl⟩; dsimp only; first | rw [a1] | rw [a2] | rw [a3]))
        go_ret
        exact ⟨rfl, HB.out⟩
      | true =>
        cases a4 : allIn (sizeM P 2) ml with
        | false =>
          simp only [Bool.true_and, Bool.false_and]
          go_enter Tryz.func97, Tryz.ntmps97
          go_wp2_with (first | (go_at_call 105; refine (hasAll_any P T _ _ _ _ _ HH.out (by first | exact H1.out | exact H2.out | exact H3.out | exact H4.out)).mono ?_; rintro e w2 ⟨rfl, rfl⟩; dsimp only; first | rw [a1] | rw [a2] | rw [a3] | rw [a4]))
          go_ret
          exact ⟨rfl, HB.out⟩
        | true =>
          simp only [Bool.true_and]
          generalize a5 : allIn (sizeM P 5) yl = r
          go_enter Tryz.func97, Tryz.ntmps97
          go_wp2_with (first | (go_at_call 105; refine (hasAll_any P T _ _ _ _ _ HH.out (by first | exact H1.out | exact H2.out | exact H3.out | exact H4.out | exact H5.out)).mono ?_; rintro e w2 ⟨rfl, rfl⟩; dsimp only; first | rw [a1] | rw [a2] | rw [a3] | rw [a4] | rw [a5]))
          go_ret
          exact ⟨rfl, HB.out⟩
end Go.Proofs.YtfbaikijnjafbaaGreatDoor
