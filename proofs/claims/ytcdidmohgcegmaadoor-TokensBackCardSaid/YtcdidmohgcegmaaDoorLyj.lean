/- The contract of checkList. -/
import Derived.Test.YtcdidmohgcegmaaDoorLyh
namespace Go.Proofs.YtcdidmohgcegmaaDoor
open Go.RowKit
set_option maxRecDepth 100000

def chkK : Nat → List Tok → Nat → Option Flt
  | 0, _, _ => none
  | f + 1, l, i =>
    if i < l.length then
      (if 10 < (tk l i).kind then some ⟨i, 16⟩ else if 0 < i ∧ disM (tk l (i - 1)) (tk l i) = true then some ⟨i, 23⟩ else chkK f l (i + 1))
    else if 20000 < l.length then some ⟨0, 18⟩ else none
def chkM (l : List Tok) : Option Flt := chkK (l.length + 1) l 0
/-- How checkList ends. -/
def ChkOut (w : World) (o : Option Flt) (e : Ending) (w' : World) : Prop :=
  match o with
  | none => e = .returned (.tuple #[]) ∧ Below w.heap.size w w'
  | some f => e = .panicked [{ v := .iface 28 (fltV f), recovered := false }] ∧ Below w.heap.size w w'

theorem below_drewN {B : Nat} {a w : World} (h : Below B a w) (n : Nat) : Below B a (w.drewN n) := ⟨h.os, h.tape, h.output, h.size, h.block⟩
theorem TokIn.below {w w' : World} {k i : Nat} {t : Tok} (h : TokIn w k i t) (hb : Below w.heap.size w w') (hk : k < w.heap.size) : TokIn w' k i t := by
  have hc : ∀ j, w'.cell? ⟨k, j, none⟩ = w.cell? ⟨k, j, none⟩ := fun j => World.cell?_of_block (hb.block k hk)
  unfold TokIn at *
  rw [hc, hc, hc, hc, hc]
  exact h
theorem in_form0 {w : World} {iv : Value} {l : List Tok} (h : w.ownsRow 0 34 5 iv l.length (l.flatMap Tok.cells)) :
    ∃ A cap, iv = .slice A l.length cap ∧ (0 < l.length → ∃ k, A = some ⟨k, 0, none⟩ ∧ k < w.heap.size ∧ ∀ i, i < l.length → TokIn w k i (tk l i)) := by
  rcases Nat.eq_zero_or_pos l.length with h0 | h0
  · rcases h.2 with ⟨rfl, h2⟩ | ⟨k, cap, cur, rfl, _⟩
    · exact ⟨none, 0, by rw [h0], fun h => absurd h (by omega)⟩
    · exact ⟨_, cap, rfl, fun h => absurd h (by omega)⟩
  · obtain ⟨k, cap, hv, hk, hin⟩ := in_form h h0
    exact ⟨_, cap, hv, fun _ => ⟨k, rfl, hk, hin⟩⟩

set_option maxRecDepth 100000 in
set_option maxHeartbeats 1600000 in
theorem check_list_any {w : World} {iv : Value} {l : List Tok} (h : w.ownsRow 0 34 5 iv l.length (l.flatMap Tok.cells)) (hl : l.length ≤ 1000000) :
    Calls Tryd.prog 58 #[iv] w (ChkOut w (chkM l)) := by
  generalize hm : chkM l = res
  unfold chkM at hm
  have HM := Lib.hid hm
  clear hm
  obtain ⟨A, cap, rfl, hin⟩ := in_form0 h
  have HI := Lib.hid hin
  clear h hin
  go_enter Tryd.func58, Tryd.ntmps58
  go_wp2_with fail
  go_loopg [6] (l.length + 1) (fun n v wr => ∃ i : Nat, i ≤ l.length ∧ v = .int .i64 i ∧ Hid (n = l.length + 1 - i) ∧ Hid (∃ f, l.length < f + i ∧ chkK f l i = res) ∧ Hid (Below w.heap.size w wr))
  case atStart => exact ⟨0, by omega, rfl, rfl, ⟨_, by omega, HM.out⟩, Below.refl _ _⟩
  case round =>
    obtain ⟨i, hi, rfl, HN, HF, HB⟩ := hrel
    clear HM
    by_cases hlt : i < l.length
    · have d1 : decide ((i : Int) < (l.length : Int)) = true := decide_eq_true (by omega)
      have d2 : ((i : Int) < (l.length : Int)) := by omega
      obtain ⟨f, hf, HC⟩ : ∃ f, l.length ≤ f + i ∧ Hid ((if 10 < (tk l i).kind then some ⟨i, 16⟩ else if 0 < i ∧ disM (tk l (i - 1)) (tk l i) = true then some ⟨i, 23⟩ else chkK f l (i + 1)) = res) := by
        obtain ⟨f, hf, hc⟩ := HF.out
        cases f with
        | zero => omega
        | succ f => exact ⟨f, by omega, by rw [chkK, if_pos hlt] at hc; exact hc⟩
      obtain ⟨k, rfl, hk, hin⟩ := HI.out (by omega)
      have hk2 : k < wr.heap.size := Nat.lt_of_lt_of_le hk HB.out.size
      obtain ⟨t0, t1, t2, t3, t4⟩ := (hin i hlt).below HB.out hk
      by_cases h10 : 10 < (tk l i).kind
      · obtain rfl : some ⟨i, 16⟩ = res := by have := HC.out; rw [if_pos h10] at this; exact this
        have e1 : decide (((tk l i).kind : Int) < 0) = false := decide_eq_false (by omega)
        have e2 : decide ((10 : Int) < ((tk l i).kind : Int)) = true := decide_eq_true (by omega)
        clear HC HF
        go_wp2_with (go_at_call 49; refine (fail_any _ _ _).mono ?_; rintro e w' ⟨rfl, rfl⟩)
        exact ⟨rfl, rfl, HB.out.alloc HB.out.size _⟩
      · have HC2 : Hid ((if 0 < i ∧ disM (tk l (i - 1)) (tk l i) = true then some ⟨i, 23⟩ else chkK f l (i + 1)) = res) := Lib.hid (by have := HC.out; rw [if_neg h10] at this; exact this)
        have e1 : decide (((tk l i).kind : Int) < 0) = false := decide_eq_false (by omega)
        have e2 : decide ((10 : Int) < ((tk l i).kind : Int)) = false := decide_eq_false (by omega)
        clear HC HF h10
        go_upto_region 5 with fail
        go_cut [6, 31] from 6 to 34 (fun s6 s31 wx => s6 = .int .i64 i ∧ s31 = .bool (decide (0 < i ∧ disM (tk l (i - 1)) (tk l i) = true)) ∧ Hid (Below w.heap.size w wx))
        case first =>
          by_cases h0 : 0 < i
          · obtain ⟨u0, u1, u2, u3, u4⟩ := (hin (i - 1) (by omega)).below HB.out hk
            have HD := Lib.hid (show disM (tk l (i - 1)) (tk l i) = decide (0 < i ∧ disM (tk l (i - 1)) (tk l i) = true) by simp [h0])
            have g1 : decide (0 < i) = true := decide_eq_true h0
            have g2 : IntKind.i64.wrap ((i : Int) - 1) = ((i - 1 : Nat) : Int) := by rw [show ((i : Int) - 1) = ((i - 1 : Nat) : Int) by omega]; exact IntWalk.i64_in _ (by omega)
            have g3 : (((i - 1 : Nat) : Int) < (l.length : Int)) := by omega
            clear h0
            (first | go_region_with (go_at_call 73; refine (dis_any (tk l (i - 1)) (tk l i) _).mono ?_; rintro e w' ⟨rfl, rfl⟩) | fail)
            all_goals
              go_wp2_with fail
              go_meet
              exact ⟨rfl, congrArg Value.bool HD.out, (((HB.out.alloc HB.out.size _).drew).alloc (by have := HB.out.size; simp; omega) _).alloc (by have := HB.out.size; simp; omega) _⟩
          · have HD := Lib.hid (show false = decide (0 < i ∧ disM (tk l (i - 1)) (tk l i) = true) by simp [h0])
            have g1 : decide (0 < i) = false := decide_eq_false h0
            clear h0
            go_quiet (fail)
            go_wp2_with fail
            go_meet
            exact ⟨rfl, congrArg Value.bool HD.out, below_drewN (HB.out.alloc HB.out.size _) _⟩
        case rest =>
          obtain ⟨rfl, rfl, HW⟩ := hcut
          by_cases hd : 0 < i ∧ disM (tk l (i - 1)) (tk l i) = true
          · obtain rfl : some ⟨i, 23⟩ = res := by have := HC2.out; rw [if_pos hd] at this; exact this
            rw [decide_eq_true hd]
            clear hd HC2
            go_wp2_with (go_at_call 49; refine (fail_any _ _ _).mono ?_; rintro e w' ⟨rfl, rfl⟩)
            exact ⟨rfl, rfl, HW.out⟩
          · have HC3 : Hid (chkK f l (i + 1) = res) := Lib.hid (by have := HC2.out; rw [if_neg hd] at this; exact this)
            rw [decide_eq_false hd]
            clear hd HC2
            go_wp2_with fail
            go_roundg (l.length + 1 - (i + 1))
            case measure => have := HN.out; omega
            case rel => exact ⟨i + 1, by omega, by go_num, rfl, ⟨f, by omega, HC3.out⟩, HW.out⟩
    · have d1 : decide ((i : Int) < (l.length : Int)) = false := decide_eq_false (by omega)
      obtain rfl : i = l.length := by omega
      have HC : Hid ((if 20000 < l.length then some ⟨0, 18⟩ else none) = res) := by
        obtain ⟨f, hf, hc⟩ := HF.out
        cases f with
        | zero => omega
        | succ f => exact Lib.hid (by rw [chkK, if_neg hlt] at hc; exact hc)
      clear HF hlt
      by_cases hbig : 20000 < l.length
      · obtain rfl : some ⟨0, 18⟩ = res := by have := HC.out; rw [if_pos hbig] at this; exact this
        go_wp2_with (go_at_call 49; refine (fail_any _ _ _).mono ?_; rintro e w' ⟨rfl, rfl⟩)
        exact ⟨rfl, rfl, HB.out⟩
      · obtain rfl : none = res := by have := HC.out; rw [if_neg hbig] at this; exact this
        go_wp2_with fail
        go_end0
        exact ⟨rfl, HB.out⟩
end Go.Proofs.YtcdidmohgcegmaaDoor
