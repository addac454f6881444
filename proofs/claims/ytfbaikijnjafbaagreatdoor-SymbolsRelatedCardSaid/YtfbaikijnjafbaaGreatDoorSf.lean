/- consists and IsName of package symbols: IsName is nameM. No conditions. -/
import Derived.Test.YtfbaikijnjafbaaGreatDoorSb
import Derived.Test.YtfbaikijnjafbaaGreatDoorNa
import Derived.Test.YtfbaikijnjafbaaGreatDoorSh
namespace Go.Proofs.YtfbaikijnjafbaaGreatDoor
set_option linter.unusedSimpArgs false
set_option linter.unusedVariables false
open Go.RowKit
set_option maxRecDepth 100000

def inTab (tab : ByteArray) (c : UInt8) : Bool := decide (0 ≤ Lib.indexByte tab.data.toList c)
def consB (s tab : ByteArray) : Bool := s.data.toList.all (inTab tab)
theorem consists_any (s tab : ByteArray) (w : World) (h64 : s.size ≤ 64) : Calls Tryz.prog 128 #[.string s, .string tab] w fun e w' => e = .returned (.bool (consB s tab)) ∧ w = w' := by
  generalize hres : consB s tab = res
  have HR := Lib.hid hres
  have H64 := Lib.hid h64
  clear hres h64
  go_enter Tryz.func128, Tryz.ntmps128
  go_wp2_with fail
  go_loopg [8] (s.size + 1) (fun n v wr => ∃ i : Nat, i ≤ s.size ∧ v = .int .i64 i ∧ Hid (n = s.size + 1 - i) ∧ Hid ((s.data.toList.drop i).all (inTab tab) = res) ∧ wr = w)
  case atStart => exact ⟨0, by omega, rfl, rfl, HR.out, rfl⟩
  case round =>
    obtain ⟨i, hi, rfl, HN, HD, rfl⟩ := hrel
    have hlen : s.data.toList.length = s.size := by rw [Array.length_toList]; rfl
    by_cases hlt : i < s.size
    · have d2 : ((i : Int) < (s.size : Int)) := by omega
      have hb := bt_at s i hlt
      have HD2 : Hid ((inTab tab (bt s i) && (s.data.toList.drop (i + 1)).all (inTab tab)) = res) := by
        have := HD.out
        rw [List.drop_eq_getElem_cons (by omega), List.all_cons] at this
        have e : s.data.toList[i]'(by omega) = bt s i := by simp [bt, List.getD, hlt, hlen]
        rw [e] at this
        exact this
      have hu : ((bt s i).toNat : Int).toNat.toUInt8 = bt s i := by rw [Int.toNat_natCast]; exact UInt8.ofNat_toNat
      have HU := Lib.hid hu
      clear hu HD hlen
      generalize bt s i = c at *
      cases e1 : inTab tab c with
      | true =>
        have HD3 : Hid ((s.data.toList.drop (i + 1)).all (inTab tab) = res) := by have := HD2.out; rw [e1, Bool.true_and] at this; exact this
        have e2 : decide (Lib.indexByte tab.data.toList c < 0) = false := by unfold inTab at e1; have := of_decide_eq_true e1; exact decide_eq_false (by omega)
        clear e1 HD2
        go_wp2_with (first | (go_at_call 139; refine (Tryz.strings_IndexByte _ _ _).mono ?_; rintro e w2 ⟨rfl, rfl⟩; dsimp only; rw [HU.out]))
        go_roundg (s.size + 1 - (i + 1))
        case measure => have := HN.out; omega
        case rel => exact ⟨i + 1, by omega, by first | go_num | (rw [IntWalk.wrap64_in _ (by have := H64.out; omega)]; go_num), rfl, HD3, rfl⟩
      | false =>
        obtain rfl : false = res := by have := HD2.out; rw [e1, Bool.false_and] at this; exact this
        have e2 : decide (Lib.indexByte tab.data.toList c < 0) = true := by unfold inTab at e1; have := of_decide_eq_false e1; exact decide_eq_true (by omega)
        clear e1 HD2
        go_wp2_with (first | (go_at_call 139; refine (Tryz.strings_IndexByte _ _ _).mono ?_; rintro e w2 ⟨rfl, rfl⟩; dsimp only; rw [HU.out]))
        go_ret
        exact ⟨rfl, rfl⟩
    · obtain rfl : i = s.size := by omega
      obtain rfl : true = res := by have := HD.out; rw [← hlen, List.drop_length] at this; exact this
      go_wp2_with fail
      go_ret
      exact ⟨rfl, rfl⟩
def ldB : ByteArray := ⟨#[97, 98, 99, 100, 101, 102, 103, 104, 105, 106, 107, 108, 109, 110, 111, 112, 113, 114, 115, 116, 117, 118, 119, 120, 121, 122, 65, 66, 67, 68, 69, 70, 71, 72, 73, 74, 75, 76, 77, 78, 79, 80, 81, 82, 83, 84, 85, 86, 87, 88, 89, 90, 95, 36, 48, 49, 50, 51, 52, 53, 54, 55, 56, 57]⟩
def dgB : ByteArray := ⟨#[48, 49, 50, 51, 52, 53, 54, 55, 56, 57]⟩

theorem byte_all (p q : Nat → Bool) (h : (List.range 256).all (fun n => p n == q n) = true) (c : UInt8) : p c.toNat = q c.toNat := by
  have := List.all_eq_true.1 h c.toNat (List.mem_range.2 c.toNat_lt)
  simpa using this
theorem tab_op (c : UInt8) : inTab opB c = opM c.toNat := by
  have := byte_all (fun n => inTab opB n.toUInt8) opM (by kernel_rfl) c
  rw [← this]
  show _ = inTab opB (UInt8.ofNat c.toNat)
  rw [UInt8.ofNat_toNat]
theorem tab_dg (c : UInt8) : inTab dgB c = digitM c.toNat := by
  have := byte_all (fun n => inTab dgB n.toUInt8) digitM (by kernel_rfl) c
  rw [← this]
  show _ = inTab dgB (UInt8.ofNat c.toNat)
  rw [UInt8.ofNat_toNat]
theorem tab_ld (c : UInt8) : inTab ldB c = (letterM c.toNat || digitM c.toNat) := by
  have := byte_all (fun n => inTab ldB n.toUInt8) (fun n => letterM n || digitM n) (by kernel_rfl) c
  rw [← this]
  show _ = inTab ldB (UInt8.ofNat c.toNat)
  rw [UInt8.ofNat_toNat]
theorem letter_no_digit (c : UInt8) : ((letterM c.toNat || digitM c.toNat) && !digitM c.toNat) = letterM c.toNat :=
  byte_all (fun n => (letterM n || digitM n) && !digitM n) letterM (by kernel_rfl) c
theorem take_one_more (s : ByteArray) (i : Nat) (h : i < s.size) : s.data.toList.take (i + 1) = s.data.toList.take i ++ [bt s i] := by
  have hlen : s.data.toList.length = s.size := by rw [Array.length_toList]; rfl
  have e : s.data.toList[i]'(by omega) = bt s i := by simp [bt, List.getD, h, hlen]
  rw [List.take_add_one, List.getElem?_eq_getElem (by omega), e]
  rfl
theorem signTo_all (s : ByteArray) : ∀ k, k ≤ s.size → signTo s k = (s.data.toList.take k).all (inTab opB)
  | 0, _ => rfl
  | k + 1, h => by rw [signTo, signTo_all s k (by omega), take_one_more s k h, List.all_append, List.all_cons, List.all_nil, Bool.and_true, tab_op]
theorem wordTo_all (s : ByteArray) : ∀ k, k + 1 ≤ s.size → wordTo s (k + 1) = ((s.data.toList.take (k + 1)).all (inTab ldB) && !digitM (bt s 0).toNat)
  | 0, h => by
    rw [wordTo, wordTo, take_one_more s 0 h, List.take_zero, List.nil_append, List.all_cons, List.all_nil, Bool.and_true, tab_ld, letter_no_digit]
    simp
  | k + 1, h => by
    rw [wordTo, wordTo_all s k (by omega), take_one_more s (k + 1) h, List.all_append, List.all_cons, List.all_nil, Bool.and_true, tab_ld]
    have : decide (0 < k + 1) = true := decide_eq_true (by omega)
    rw [this, Bool.and_true]
    cases (s.data.toList.take (k + 1)).all (inTab ldB) <;> cases digitM (bt s 0).toNat <;> simp
theorem cons_first (s : ByteArray) (h : ¬ s.size = 0) : consB (s.extract 0 1) dgB = digitM (bt s 0).toNat := by
  have hlen : s.data.toList.length = s.size := by rw [Array.length_toList]; rfl
  have e : (s.extract 0 1).data.toList = s.data.toList.take 1 := by rw [ByteArray.data_extract, Array.toList_extract]; rfl
  unfold consB
  rw [e, take_one_more s 0 (by omega), List.take_zero, List.nil_append, List.all_cons, List.all_nil, Bool.and_true, tab_dg]
theorem name_eq (s : ByteArray) (h : ¬ s.size = 0) (h2 : ¬ 64 < s.size) : nameM s = if consB s opB then true else consB s ldB && !consB (s.extract 0 1) dgB := by
  have hlen : s.data.toList.length = s.size := by rw [Array.length_toList]; rfl
  obtain ⟨k, hk⟩ : ∃ k, s.size = k + 1 := ⟨s.size - 1, by omega⟩
  unfold nameM
  rw [if_neg (fun e => e.elim h h2), signTo_all s s.size (Nat.le_refl _), hk, wordTo_all s k (by omega), ← hk, cons_first s h]
  unfold consB
  rw [← hlen, List.take_length]
  cases s.data.toList.all (inTab opB) <;> simp

set_option maxHeartbeats 800000 in
/-- IsName is the reference's. -/
theorem isName_any (s : ByteArray) (w : World) : Calls Tryz.prog 94 #[.string s] w fun e w' => e = .returned (.bool (nameM s)) ∧ w = w' := by
  by_cases h : s.size = 0
  · have e0 : s = ByteArray.empty := by
      have : s.data.size = 0 := h
      cases s with | mk d => simp at this; subst this; rfl
    subst e0
    have : nameM ByteArray.empty = false := by decide
    rw [this]
    go_enter Tryz.func94, Tryz.ntmps94
    go_wp2_with fail
    go_ret
    exact ⟨rfl, rfl⟩
  · have he := not_empty h
    by_cases h2 : 64 < s.size
    · have hm : nameM s = false := by unfold nameM; rw [if_pos (.inr h2)]
      have d1 : decide ((64 : Int) < (s.size : Int)) = true := decide_eq_true (by omega)
      rw [hm]
      clear hm h2 h
      go_enter Tryz.func94, Tryz.ntmps94
      go_wp2_with fail
      go_ret
      exact ⟨rfl, rfl⟩
    · have hm := name_eq s h h2
      have d1 : decide ((64 : Int) < (s.size : Int)) = false := decide_eq_false (by omega)
      have hge : (1 : Int) ≤ (s.size : Int) := by omega
      rw [hm]
      have H64 := Lib.hid (show s.size ≤ 64 by omega)
      have H1 := Lib.hid (show (s.extract 0 1).size ≤ 64 by rw [ByteArray.size_extract]; omega)
      clear hm h2
      cases e1 : consB s opB with
      | true =>
        have e1L : consB s ⟨#[43, 45, 42, 47, 37, 60, 62, 61, 33, 38, 124, 94, 126, 58, 63]⟩ = true := e1
        rw [if_pos rfl]
        clear e1
        go_enter Tryz.func94, Tryz.ntmps94
        go_wp2_with (first | (go_at_call 128; refine (consists_any _ _ _ (by first | exact H64.out | exact H1.out)).mono ?_; rintro e w2 ⟨rfl, rfl⟩; dsimp only; rw [e1L]))
        go_ret
        exact ⟨rfl, rfl⟩
      | false =>
        have e1L : consB s ⟨#[43, 45, 42, 47, 37, 60, 62, 61, 33, 38, 124, 94, 126, 58, 63]⟩ = false := e1
        rw [if_neg (by simp)]
        clear e1
        cases e2 : consB s ldB with
        | false =>
          have e2L : consB s ⟨#[97, 98, 99, 100, 101, 102, 103, 104, 105, 106, 107, 108, 109, 110, 111, 112, 113, 114, 115, 116, 117, 118, 119, 120, 121, 122, 65, 66, 67, 68, 69, 70, 71, 72, 73, 74, 75, 76, 77, 78, 79, 80, 81, 82, 83, 84, 85, 86, 87, 88, 89, 90, 95, 36, 48, 49, 50, 51, 52, 53, 54, 55, 56, 57]⟩ = false := e2
          rw [Bool.false_and]
          clear e2
          go_enter Tryz.func94, Tryz.ntmps94
          go_wp2_with (first | (go_at_call 128; refine (consists_any _ _ _ (by first | exact H64.out | exact H1.out)).mono ?_; rintro e w2 ⟨rfl, rfl⟩; dsimp only; first | rw [e1L] | rw [e2L]))
          go_ret
          exact ⟨rfl, rfl⟩
        | true =>
          have e2L : consB s ⟨#[97, 98, 99, 100, 101, 102, 103, 104, 105, 106, 107, 108, 109, 110, 111, 112, 113, 114, 115, 116, 117, 118, 119, 120, 121, 122, 65, 66, 67, 68, 69, 70, 71, 72, 73, 74, 75, 76, 77, 78, 79, 80, 81, 82, 83, 84, 85, 86, 87, 88, 89, 90, 95, 36, 48, 49, 50, 51, 52, 53, 54, 55, 56, 57]⟩ = true := e2
          rw [Bool.true_and]
          clear e2
          go_enter Tryz.func94, Tryz.ntmps94
          go_wp2_with (first | (go_at_call 128; refine (consists_any _ _ _ (by first | exact H64.out | exact H1.out)).mono ?_; rintro e w2 ⟨rfl, rfl⟩; dsimp only; first | rw [e1L] | rw [e2L] | skip))
          go_ret
          exact ⟨rfl, rfl⟩
end Go.Proofs.YtfbaikijnjafbaaGreatDoor
