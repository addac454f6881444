/- The contract of the reference's IsName. -/
import Derived.Test.YtfbaikijnjafbaaGreatDoorTs
import Derived.Lib.Strings
import Derived.Deep.CutRange
namespace Go.Proofs.YtfbaikijnjafbaaGreatDoor
set_option linter.unusedSimpArgs false
set_option linter.unusedVariables false
open Go.RowKit
set_option maxRecDepth 100000

def bt (s : ByteArray) (i : Nat) : UInt8 := s.data.toList.getD i 0
def opL : List Nat := [43, 45, 42, 47, 37, 60, 62, 61, 33, 38, 124, 94, 126, 58, 63]
def opB : ByteArray := ⟨#[43, 45, 42, 47, 37, 60, 62, 61, 33, 38, 124, 94, 126, 58, 63]⟩
def opTo (k : Nat) (c : Nat) : Bool := (opL.take k).any (· == c)
def opM (c : Nat) : Bool := opTo 15 c
def digitM (c : Nat) : Bool := decide (48 ≤ c) && decide (c ≤ 57)
def letterM (c : Nat) : Bool := ((decide (97 ≤ c) && decide (c ≤ 122)) || (decide (65 ≤ c) && decide (c ≤ 90)) || c == 95) || c == 36
def wordTo (s : ByteArray) : Nat → Bool
  | 0 => true
  | i + 1 => wordTo s i && (letterM (bt s i).toNat || (digitM (bt s i).toNat && decide (0 < i)))
def signTo (s : ByteArray) : Nat → Bool
  | 0 => true
  | i + 1 => signTo s i && opM (bt s i).toNat
def nameM (s : ByteArray) : Bool := if s.size = 0 ∨ 64 < s.size then false else wordTo s s.size || signTo s s.size

theorem op_step (c : Nat) : ∀ k, k < 15 → opTo (k + 1) c = (opTo k c || (opL.getD k 0 == c))
  | 0, _ => by simp [opTo, opL]
  | 1, _ => by simp [opTo, opL]
  | 2, _ => by simp [opTo, opL, Bool.or_assoc]
  | 3, _ => by simp [opTo, opL, Bool.or_assoc]
  | 4, _ => by simp [opTo, opL, Bool.or_assoc]
  | 5, _ => by simp [opTo, opL, Bool.or_assoc]
  | 6, _ => by simp [opTo, opL, Bool.or_assoc]
  | 7, _ => by simp [opTo, opL, Bool.or_assoc]
  | 8, _ => by simp [opTo, opL, Bool.or_assoc]
  | 9, _ => by simp [opTo, opL, Bool.or_assoc]
  | 10, _ => by simp [opTo, opL, Bool.or_assoc]
  | 11, _ => by simp [opTo, opL, Bool.or_assoc]
  | 12, _ => by simp [opTo, opL, Bool.or_assoc]
  | 13, _ => by simp [opTo, opL, Bool.or_assoc]
  | 14, _ => by simp [opTo, opL, Bool.or_assoc]
  | n + 15, h => absurd h (by omega)
theorem op_get : ∀ k (h : k < opB.size), (opB[k]).toNat = opL.getD k 0
  | 0, _ => rfl
  | 1, _ => rfl
  | 2, _ => rfl
  | 3, _ => rfl
  | 4, _ => rfl
  | 5, _ => rfl
  | 6, _ => rfl
  | 7, _ => rfl
  | 8, _ => rfl
  | 9, _ => rfl
  | 10, _ => rfl
  | 11, _ => rfl
  | 12, _ => rfl
  | 13, _ => rfl
  | 14, _ => rfl
  | n + 15, h => absurd h (by show ¬ n + 15 < 15; omega)
theorem bt_at (s : ByteArray) (i : Nat) (h : i < s.size) : s[i] = bt s i := by simp [bt, List.getD, ByteArray.getElem_eq_getElem_data, h]
theorem not_empty {s : ByteArray} (h : s.size ≠ 0) : s.toList.isEmpty = false := by
  cases e : s.toList.isEmpty with
  | false => rfl
  | true =>
    rw [List.isEmpty_iff, Go.Lib.toList_data] at e
    exact absurd (show s.data.toList.length = 0 by rw [e]; rfl) h

set_option maxHeartbeats 1600000 in
theorem name16_any (s : ByteArray) (w : World) : Calls Tryz.prog 74 #[.string s] w fun e w' => e = .returned (.bool (nameM s)) ∧ w = w' := by
  by_cases h0 : s.size = 0
  · have e0 : s = ByteArray.empty := by
      have : s.data.size = 0 := h0
      cases s with | mk d => simp at this; subst this; rfl
    subst e0
    have : nameM ByteArray.empty = false := by decide
    rw [this]
    go_enter Tryz.func74, Tryz.ntmps74
    go_wp2_with fail
    go_ret
    exact ⟨rfl, rfl⟩
  · by_cases h64 : 64 < s.size
    · have hm : nameM s = false := by unfold nameM; rw [if_pos (.inr h64)]
      have d1 : decide ((64 : Int) < (s.size : Int)) = true := decide_eq_true (by omega)
      have he := not_empty h0
      rw [hm]
      clear hm h64 h0
      go_enter Tryz.func74, Tryz.ntmps74
      go_wp2_with fail
      go_ret
      exact ⟨rfl, rfl⟩
    · have hm : nameM s = (wordTo s s.size || signTo s s.size) := by unfold nameM; rw [if_neg (fun h => h.elim h0 h64)]
      have d1 : decide ((64 : Int) < (s.size : Int)) = false := decide_eq_false (by omega)
      generalize hres : (wordTo s s.size || signTo s s.size) = res at hm
      have HR := Lib.hid hres
      have he := not_empty h0
      rw [hm]
      clear hm hres h0
      go_enter Tryz.func74, Tryz.ntmps74
      go_wp2_with fail
      go_loopg [3, 4, 5] (s.size + 1) (fun n v3 v4 v5 wr => ∃ i : Nat, i ≤ s.size ∧ v3 = .bool (wordTo s i) ∧ v4 = .bool (signTo s i) ∧ v5 = .int .i64 i ∧ Hid (n = s.size + 1 - i) ∧ wr = w)
      case atStart => exact ⟨0, by omega, rfl, rfl, rfl, rfl, rfl⟩
      case round =>
        obtain ⟨i, hi, rfl, rfl, rfl, HN, rfl⟩ := hrel
        by_cases hlt : i < s.size
        · have d2 : ((i : Int) < (s.size : Int)) := by omega
          have hb := bt_at s i hlt
          obtain ⟨wd', hwd'⟩ : ∃ x, x = wordTo s (i + 1) := ⟨_, rfl⟩
          obtain ⟨sg', hsg'⟩ : ∃ x, x = signTo s (i + 1) := ⟨_, rfl⟩
          have HWD := Lib.hid hwd'
          have HSG := Lib.hid hsg'
          have HW := Lib.hid (show wd' = (wordTo s i && (letterM (bt s i).toNat || (digitM (bt s i).toNat && decide (0 < i)))) from hwd')
          have HS := Lib.hid (show sg' = (signTo s i && opM (bt s i).toNat) from hsg')
          clear hwd' hsg'
          generalize wordTo s i = wd at *
          generalize signTo s i = sg at *
          go_upto_region 8 with fail
          generalize (bt s i).toNat = c at *
          go_cut [7] from 18 to 80 (fun s7 wx => s7 = .bool (digitM c) ∧ wr = wx)
          case first =>
            go_wp2_with fail
            all_goals
              go_meet
              refine ⟨congrArg Value.bool ?_, rfl⟩
              rw [Bool.eq_iff_iff]
              simp [digitM]
              omega
          case rest =>
            obtain ⟨rfl, rfl⟩ := hcut
            generalize digitM c = dg at *
            go_upto_region 9 with fail
            go_cut [8] from 18 to 80 (fun s8 wx => s8 = .bool (letterM c) ∧ wr = wx)
            case first =>
              cases h95 : ((c : Int) == 95) <;> cases h36 : ((c : Int) == 36)
              all_goals
                go_wp2_with fail
                all_goals
                  go_meet
                  refine ⟨congrArg Value.bool ?_, rfl⟩
                  rw [Bool.eq_iff_iff]
                  simp [letterM]
                  simp at h95 h36
                  omega
            case rest =>
              obtain ⟨rfl, rfl⟩ := hcut
              generalize letterM c = lt at *
              go_upto_region 10 with fail
              go_cut [3] from 18 to 80 (fun s3 wx => s3 = .bool wd' ∧ wr = wx)
              case first =>
                have hw := HW.out
                subst hw
                clear HW HS
                have e0 : decide ((0 : Int) < (i : Int)) = decide (0 < i) := by rw [Bool.eq_iff_iff]; simp
                cases wd <;> cases lt <;> cases dg
                all_goals
                  go_wp2_with fail
                  go_meet
                  exact ⟨congrArg Value.bool (by simp), rfl⟩
              case rest =>
                obtain ⟨rfl, rfl⟩ := hcut
                clear HW
                go_wp2_with fail
                go_loopg [9, 10] 16 (fun n v9 v10 wx => ∃ k : Nat, k ≤ 15 ∧ v9 = .bool (opTo k c) ∧ v10 = .int .i64 k ∧ Hid (n = 16 - k) ∧ wr = wx)
                case atStart => exact ⟨0, by omega, rfl, rfl, rfl, rfl⟩
                case round =>
                  obtain ⟨k, hk, rfl, rfl, HNK, rfl⟩ := hrel
                  by_cases hk15 : k < 15
                  · have hst := op_step c k hk15
                    have HST := Lib.hid hst
                    clear hst
                    generalize opTo k c = ok at *
                    have hkz : k < opB.size := hk15
                    have hg := op_get k hkz
                    rw [← hg] at HST
                    clear hg
                    have hkk : ((k : Int) < 15) := by omega
                    cases ok
                    · have hst := HST.out
                      rw [Bool.false_or] at hst
                      have HST2 := Lib.hid hst
                      clear HST hst
                      go_wp2_with fail
                      go_roundg (16 - (k + 1))
                      case measure => have := HNK.out; omega
                      case rel => exact ⟨k + 1, by omega, congrArg Value.bool (by rw [HST2.out]; rw [Bool.eq_iff_iff]; simp [opB]; omega), by go_num, rfl, rfl⟩
                    · have hst := HST.out
                      rw [Bool.true_or] at hst
                      have HST2 := Lib.hid hst
                      clear HST hst
                      go_wp2_with fail
                      go_roundg (16 - (k + 1))
                      case measure => have := HNK.out; omega
                      case rel => exact ⟨k + 1, by omega, congrArg Value.bool HST2.out.symm, by go_num, rfl, rfl⟩
                  · obtain rfl : k = 15 := by omega
                    have hs := HS.out
                    rw [show opM c = opTo 15 c from rfl] at hs
                    generalize opTo 15 c = ok at *
                    subst hs
                    clear HS
                    cases sg
                    all_goals
                      go_wp2_with fail
                      go_roundg (s.size + 1 - (i + 1))
                      case measure => have := HN.out; omega
                      case rel => exact ⟨i + 1, by omega, congrArg Value.bool HWD.out, congrArg Value.bool (by simpa using HSG.out), by go_num, rfl, rfl⟩
        · obtain rfl : i = s.size := by omega
          have HRR := HR.out
          cases e1 : wordTo s s.size with
          | true =>
            rw [e1, Bool.true_or] at HRR
            subst HRR
            clear HR
            go_wp2_with fail
            go_ret
            exact ⟨rfl, rfl⟩
          | false =>
            rw [e1, Bool.false_or] at HRR
            subst HRR
            clear HR
            go_wp2_with fail
            go_ret
            exact ⟨rfl, rfl⟩
end Go.Proofs.YtfbaikijnjafbaaGreatDoor
