/- Contracts of the small functions of package tokens that read no memory but the two tables. -/
import Derived.Test.YtcdidmohgcegmaaDoorBase
namespace Go.Proofs.YtcdidmohgcegmaaDoor
open Go.RowKit

theorem ret_int {k : IntKind} {a b : Int} (h : a = b) : Ending.returned (.int k a) = .returned (.int k b) := by rw [h]
theorem ret_bool {a b : Bool} (h : a = b) : Ending.returned (.bool a) = .returned (.bool b) := by rw [h]
theorem ret_str {a b : ByteArray} (h : a = b) : Ending.returned (.string a) = .returned (.string b) := by rw [h]

def closesM (s : ByteArray) : Bool := s.toList == [41] || s.toList == [93] || s.toList == [125]
def closerM (s : ByteArray) : ByteArray :=
  if s.toList == [40] then ⟨#[41]⟩ else if s.toList == [91] then ⟨#[93]⟩ else if s.toList == [123] || s.toList == [39, 123] || s.toList == [36, 123] then ⟨#[125]⟩ else ⟨#[]⟩
def signMarkM (s : ByteArray) : Bool := s.toList == [61] || s.toList == [61, 62] || s.toList == [60, 45] || s.toList == [58] || s.toList == [60, 58] || s.toList == [62, 58]
def clsM (b : UInt8) : Nat := clsL.getD b.toNat 0
def inWordM (b : UInt8) : Bool := clsM b == 2 || clsM b == 3
def hexM (b : UInt8) : Int := if 48 ≤ b.toNat ∧ b.toNat ≤ 57 then (b.toNat : Int) - 48 else if 97 ≤ b.toNat ∧ b.toNat ≤ 102 then (b.toNat : Int) - 97 + 10 else -1
def hpM (s p : ByteArray) : Bool := decide (p.size ≤ s.size) && (s.extract 0 p.size).toList == p.toList

set_option maxHeartbeats 400000 in
theorem closes_any (s : ByteArray) (w : World) :
    Calls Tryd.prog 81 #[.string s] w fun e w' => e = .returned (.bool (closesM s)) ∧ w = w' := by
  go_enter Tryd.func81, Tryd.ntmps81
  go_wp2
  all_goals go_ret
  all_goals exact ⟨ret_bool (by simp_all [closesM]), rfl⟩

set_option maxHeartbeats 400000 in
theorem closer_any (s : ByteArray) (w : World) :
    Calls Tryd.prog 80 #[.string s] w fun e w' => e = .returned (.string (closerM s)) ∧ w = w' := by
  go_enter Tryd.func80, Tryd.ntmps80
  go_wp2
  all_goals go_ret
  all_goals exact ⟨ret_str (by simp_all [closerM]), rfl⟩

set_option maxHeartbeats 400000 in
theorem signMark_any (s : ByteArray) (w : World) :
    Calls Tryd.prog 93 #[.string s] w fun e w' => e = .returned (.bool (signMarkM s)) ∧ w = w' := by
  go_enter Tryd.func93, Tryd.ntmps93
  go_wp2
  all_goals go_ret
  all_goals exact ⟨ret_bool (by simp_all [signMarkM]), rfl⟩

theorem clsL_le : ∀ i, i < 128 → clsL.getD i 0 ≤ 8 := by decide +kernel
theorem clsL_out (i : Nat) (h : 128 ≤ i) : clsL.getD i 0 = 0 := by
  have hl : clsL.length = 128 := rfl
  simp [List.getD, List.getElem?_eq_none (show clsL.length ≤ i by omega)]

set_option maxRecDepth 100000 in
set_option maxHeartbeats 400000 in
theorem class_any (b : UInt8) (w : World) (hg : Gl w) :
    Calls Tryd.prog 22 #[.int .u8 b.toNat] w fun e w' => e = .returned (.int .i64 (clsM b)) ∧ w = w' := by
  have hb8 : b.toNat < 256 := b.toNat_lt
  by_cases hb : b.toNat < 128
  · have hc := hg.cls b.toNat hb
    have hl := clsL_le b.toNat hb
    unfold clsM
    generalize clsL.getD b.toNat 0 = c at hc hl ⊢
    clear hg
    go_enter Tryd.func22, Tryd.ntmps22
    go_wp2
    go_ret
    exact ⟨rfl, rfl⟩
  · have hb2 : 128 ≤ b.toNat := by omega
    unfold clsM
    rw [clsL_out _ (by omega)]
    clear hg hb
    go_enter Tryd.func22, Tryd.ntmps22
    go_wp2
    go_ret
    exact ⟨rfl, rfl⟩

set_option maxHeartbeats 400000 in
theorem inWord_any (b : UInt8) (w : World) (hg : Gl w) :
    Calls Tryd.prog 57 #[.int .u8 b.toNat] w fun e w' => e = .returned (.bool (inWordM b)) ∧ w = w' := by
  go_enter Tryd.func57, Tryd.ntmps57
  go_wp2_with (go_at_call 22; refine (class_any _ _ hg).mono ?_; rintro e w' ⟨rfl, rfl⟩)
  all_goals go_ret
  all_goals exact ⟨ret_bool (by unfold inWordM; rw [Bool.eq_iff_iff]; simp; omega), rfl⟩

set_option maxHeartbeats 400000 in
theorem hex_any (b : UInt8) (w : World) :
    Calls Tryd.prog 100 #[.int .u8 b.toNat] w fun e w' => e = .returned (.int .i64 (hexM b)) ∧ w = w' := by
  go_enter Tryd.func100, Tryd.ntmps100
  go_wp2
  all_goals go_ret
  all_goals exact ⟨ret_int (by unfold hexM; (repeat' split) <;> first | rfl | omega), rfl⟩

set_option maxHeartbeats 400000 in
theorem hp67_any (s p : ByteArray) (w : World) :
    Calls Tryd.prog 85 #[.string s, .string p] w fun e w' => e = .returned (.bool (hpM s p)) ∧ w = w' := by
  go_enter Tryd.func85, Tryd.ntmps85
  go_wp2
  all_goals go_ret
  · exact ⟨ret_bool (by simp_all [hpM]), rfl⟩
  · exact ⟨ret_bool (by simp [hpM]; intro h; omega), rfl⟩

set_option maxHeartbeats 400000 in
theorem hp_any (s p : ByteArray) (w : World) :
    Calls Tryd.prog 64 #[.string s, .string p] w fun e w' => e = .returned (.bool (hpM s p)) ∧ w = w' := by
  go_enter Tryd.func64, Tryd.ntmps64
  go_wp2_with (go_at_call 85; refine (hp67_any _ _ _).mono ?_; rintro e w' ⟨rfl, rfl⟩)
  go_ret
  exact ⟨rfl, rfl⟩

def bcM (s : ByteArray) : Bool := hpM s ⟨#[47, 47]⟩ || hpM s ⟨#[47, 42]⟩
set_option maxHeartbeats 400000 in
theorem bc_any (s : ByteArray) (w : World) :
    Calls Tryd.prog 92 #[.string s] w fun e w' => e = .returned (.bool (bcM s)) ∧ w = w' := by
  by_cases h : hpM s ⟨#[47, 47]⟩ = true
  all_goals
    go_enter Tryd.func92, Tryd.ntmps92
    go_wp2_with (go_at_call 64; refine (hp_any _ _ _).mono ?_; rintro e w' ⟨rfl, rfl⟩)
    go_ret
    exact ⟨ret_bool (by simp [bcM, h]), rfl⟩

def exceedsM (a b : ByteArray) : Bool := if a.size = b.size then !Op.bytesLess a.toList b.toList && !(a.toList == b.toList) else decide (b.size < a.size)
set_option maxHeartbeats 400000 in
theorem exceeds_any (a b : ByteArray) (w : World) :
    Calls Tryd.prog 90 #[.string a, .string b] w fun e w' => e = .returned (.bool (exceedsM a b)) ∧ w = w' := by
  by_cases h : a.size = b.size
  · have h1 : ((a.size : Int) != (b.size : Int)) = false := by simp [h]
    have h2 : exceedsM a b = (!Op.bytesLess a.toList b.toList && !(a.toList == b.toList)) := by simp [exceedsM, h]
    rw [h2]
    clear h h2
    go_enter Tryd.func90, Tryd.ntmps90
    go_wp2
    go_ret
    exact ⟨rfl, rfl⟩
  · have h1 : ((a.size : Int) != (b.size : Int)) = true := by simp; omega
    have h2 : exceedsM a b = decide (b.size < a.size) := by simp [exceedsM, h]
    rw [h2]
    clear h h2
    go_enter Tryd.func90, Tryd.ntmps90
    go_wp2
    go_ret
    exact ⟨rfl, rfl⟩

set_option maxHeartbeats 400000 in
theorem fail_any (a c : Int) (w : World) :
    Calls Tryd.prog 49 #[.int .i64 a, .int .i64 c] w fun e w' => e = .panicked [{ v := .iface 28 (.agg #[.int .i64 a, .int .i64 c]), recovered := false }] ∧ w = w' := by
  go_enter Tryd.func49, Tryd.ntmps49
  go_wp2
  exact ⟨rfl, rfl, rfl⟩
end Go.Proofs.YtcdidmohgcegmaaDoor
