/- Keyword: it tells whether a text is one of the forty-two keywords; condition: the listed table holds what the program's text lays. -/
import Derived.Test.YtcdidmohgcegmaaDoorLeaf
namespace Go.Proofs.YtcdidmohgcegmaaDoor
open Go.RowKit

def kwB (k : Nat) : ByteArray := ⟨(kwL.getD k []).toArray⟩
theorem kw_index (w : World) : ∀ (k : Nat), k < 42 → (Instr.index 38 (.agg kwCells) (.int .i64 (k : Int))).run Tryd.prog w = .ok (.string (kwB k)) w
  | 0, _ => by kernel_rfl
  | 1, _ => by kernel_rfl
  | 2, _ => by kernel_rfl
  | 3, _ => by kernel_rfl
  | 4, _ => by kernel_rfl
  | 5, _ => by kernel_rfl
  | 6, _ => by kernel_rfl
  | 7, _ => by kernel_rfl
  | 8, _ => by kernel_rfl
  | 9, _ => by kernel_rfl
  | 10, _ => by kernel_rfl
  | 11, _ => by kernel_rfl
  | 12, _ => by kernel_rfl
  | 13, _ => by kernel_rfl
  | 14, _ => by kernel_rfl
  | 15, _ => by kernel_rfl
  | 16, _ => by kernel_rfl
  | 17, _ => by kernel_rfl
  | 18, _ => by kernel_rfl
  | 19, _ => by kernel_rfl
  | 20, _ => by kernel_rfl
  | 21, _ => by kernel_rfl
  | 22, _ => by kernel_rfl
  | 23, _ => by kernel_rfl
  | 24, _ => by kernel_rfl
  | 25, _ => by kernel_rfl
  | 26, _ => by kernel_rfl
  | 27, _ => by kernel_rfl
  | 28, _ => by kernel_rfl
  | 29, _ => by kernel_rfl
  | 30, _ => by kernel_rfl
  | 31, _ => by kernel_rfl
  | 32, _ => by kernel_rfl
  | 33, _ => by kernel_rfl
  | 34, _ => by kernel_rfl
  | 35, _ => by kernel_rfl
  | 36, _ => by kernel_rfl
  | 37, _ => by kernel_rfl
  | 38, _ => by kernel_rfl
  | 39, _ => by kernel_rfl
  | 40, _ => by kernel_rfl
  | 41, _ => by kernel_rfl
  | n + 42, h => absurd h (by omega)
def kwAny (s : ByteArray) (n : Nat) : Bool := (List.range n).any fun j => (kwB j).toList == s.toList
def keywordM (s : ByteArray) : Bool := kwAny s 42
theorem kwAny_no {s : ByteArray} {k : Nat} (h : kwAny s k = false) (hk : ((kwB k).toList == s.toList) = false) : kwAny s (k + 1) = false := by
  unfold kwAny at *
  rw [List.range_succ, List.any_append, h]
  simpa using hk
theorem kwAny_yes {s : ByteArray} {k : Nat} (hk : k < 42) (h : ((kwB k).toList == s.toList) = true) : keywordM s = true := by
  unfold keywordM kwAny
  exact List.any_eq_true.2 ⟨k, by simpa using hk, h⟩

set_option maxRecDepth 100000 in
set_option maxHeartbeats 400000 in
theorem keyword_any (s : ByteArray) (w : World) (hg : Gl w) :
    Calls Tryd.prog 8 #[.string s] w fun e w' => e = .returned (.bool (keywordM s)) ∧ w = w' := by
  obtain ⟨_, _, t, fr, hg1⟩ := hg
  have HG := Lib.hid hg1
  clear hg1
  go_enter Tryd.func8, Tryd.ntmps8
  go_wp2_with (refine wpList_load_row rfl 38 _ rfl 0 rfl t kwCells fr _ HG.out Tryd.underlying38 rfl (by kernel_rfl) ?_)
  go_loopg [4, 6] 42 (fun n _ i wr => ∃ k : Nat, k ≤ 42 ∧ n = 42 - k ∧ i = .int .i64 k ∧ Hid (kwAny s k = false) ∧ wr = w)
  case atStart => exact ⟨0, by omega, rfl, rfl, rfl, rfl⟩
  case round =>
    obtain ⟨k, hk, hn, rfl, hno, rfl⟩ := hrel
    have HN := Lib.hid hn
    clear hn
    by_cases hlt : k < 42
    · have hi := kw_index wr k hlt
      go_wp2
      · go_ret
        exact ⟨ret_bool (kwAny_yes hlt (by assumption)).symm, rfl⟩
      · go_roundg (42 - (k + 1))
        case measure => have := HN.out; omega
        case rel => exact ⟨k + 1, by omega, rfl, by go_num, kwAny_no hno (by assumption), rfl⟩
    · obtain rfl : k = 42 := by omega
      go_wp2
      go_ret
      exact ⟨ret_bool (by unfold keywordM; exact hno.symm), rfl⟩
end Go.Proofs.YtcdidmohgcegmaaDoor
