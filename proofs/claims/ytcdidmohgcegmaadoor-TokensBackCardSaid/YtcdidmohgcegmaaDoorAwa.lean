/- The harness's self-test: awake answers true. -/
import Derived.Test.YtcdidmohgcegmaaDoorLyp
namespace Go.Proofs.YtcdidmohgcegmaaDoor
open Go.RowKit
set_option maxRecDepth 100000
def awT : ByteArray := ⟨#[100, 101, 102, 32, 102, 32, 61, 10, 32, 32, 97, 10, 32, 32, 98, 10, 103]⟩
def kindsOf (o : Except Flt (List Tok)) : List Nat := match o with | .ok l => l.map Tok.kind | .error _ => []
set_option maxRecDepth 100000 in
theorem aw_kinds : kindsOf (scanM awT) = [1, 0, 3, 12, 0, 11, 0, 13, 11, 0, 14] := by decide +kernel
theorem aw_model : ∃ l, scanM awT = .ok l ∧ l.map Tok.kind = [1, 0, 3, 12, 0, 11, 0, 13, 11, 0, 14] := by
  have h := aw_kinds
  cases hs : scanM awT with
  | error f => rw [hs] at h; cases h
  | ok l => rw [hs] at h; exact ⟨l, rfl, h⟩
def awK : List Nat := [1, 0, 3, 12, 0, 11, 0, 13, 11, 0, 14]
def awC : Array Value := #[.int .i64 1, .int .i64 0, .int .i64 3, .int .i64 12, .int .i64 0, .int .i64 11, .int .i64 0, .int .i64 13, .int .i64 11, .int .i64 0, .int .i64 14]
theorem awC_at : ∀ i, i < 11 → awC[i]? = some (I (awK.getD i 0))
  | 0, _ => rfl
  | 1, _ => rfl
  | 2, _ => rfl
  | 3, _ => rfl
  | 4, _ => rfl
  | 5, _ => rfl
  | 6, _ => rfl
  | 7, _ => rfl
  | 8, _ => rfl
  | 9, _ => rfl
  | 10, _ => rfl
  | n + 11, h => absurd h (by omega)

set_option maxHeartbeats 1600000 in
theorem awake_any (w : World) (hg : Gl w) : Calls Tryd.prog 7 #[] w fun e w' => e = .returned (.bool true) ∧ Below w.heap.size w w' := by
  obtain ⟨l, hl, hk⟩ := aw_model
  have hlen : l.length = 11 := by have := congrArg List.length hk; simpa using this
  have hki : ∀ i, i < 11 → (tk l i).kind = awK.getD i 0 := fun i hi => by
    have h1 : (l.map Tok.kind).getD i 0 = awK.getD i 0 := by rw [hk]; rfl
    rw [← h1]
    simp [tk, List.getD, List.getElem?_map, List.getElem?_eq_getElem (show i < l.length by omega)]
  go_enter Tryd.func7, Tryd.ntmps7
  go_wp2_with fail
  refine (scan_any awT w hg).mono ?_
  rintro e w2 h
  rw [hl] at h
  obtain ⟨lv, rfl, hown, hb⟩ := h
  obtain ⟨k, cap, rfl, hkk, hin⟩ := in_form hown (by omega)
  rw [hlen] at *
  have HI := Lib.hid hin
  have HB := Lib.hid hb
  have HKI := Lib.hid hki
  clear hin hb hki hown hl hk
  go_wp2_with fail
  have hz1 : ((w2.alloc (.cells #[.int .i64 0, .int .i64 0] 28)).alloc (.cells awC 3)).heap[w2.heap.size + 1]? = some (.cells awC 3 (0, 0)) := by
    have := heap_alloc_new (w2.alloc (.cells #[.int .i64 0, .int .i64 0] 28)) (.cells awC 3)
    rw [show (w2.alloc (.cells #[.int .i64 0, .int .i64 0] 28)).heap.size = w2.heap.size + 1 by simp] at this
    exact this
  have hz2 : ∀ i, i < 11 → ((w2.alloc (.cells #[.int .i64 0, .int .i64 0] 28)).alloc (.cells awC 3)).cell? ⟨k, i * 5, none⟩ = some (I (awK.getD i 0)) := fun i hi => by
    rw [World.cell?_alloc_lt _ _ _ (by simp; omega), World.cell?_alloc_lt _ _ _ hkk, (HI.out i hi).1, HKI.out i hi]
  have hz3 : Below w.heap.size w ((w2.alloc (.cells #[.int .i64 0, .int .i64 0] 28)).alloc (.cells awC 3)) := (HB.out.alloc HB.out.size _).alloc (by have := HB.out.size; simp; omega) _
  change Code.wp _ _ _ _ ((w2.alloc (.cells #[.int .i64 0, .int .i64 0] 28)).alloc (.cells awC 3))
  generalize (w2.alloc (.cells #[.int .i64 0, .int .i64 0] 28)).alloc (.cells awC 3) = wz at hz1 hz2 hz3 ⊢
  have HZ1 := Lib.hid hz1
  have HZ2 := Lib.hid hz2
  have HZ3 := Lib.hid hz3
  clear hz1 hz2 hz3
  go_loopg [23] 12 (fun n v wr => ∃ i : Nat, i ≤ 11 ∧ v = .int .i64 i ∧ Hid (n = 12 - i) ∧ wr = wz)
  case atStart => exact ⟨0, by omega, rfl, rfl, rfl⟩
  case round =>
    obtain ⟨i, hi, rfl, HN, rfl⟩ := hrel
    by_cases hlt : i < 11
    · have d1 : ((i : Int) < 11) := by omega
      have a1 := HZ2.out i hlt
      have a2 : wr.cell? ⟨w2.heap.size + 1, i, none⟩ = some (I (awK.getD i 0)) := by rw [cell_of_row _ _ _ _ _ _ HZ1.out]; exact awC_at i hlt
      generalize awK.getD i 0 = kd at a1 a2
      go_wp2_with fail
      go_roundg (12 - (i + 1))
      case measure => have := HN.out; omega
      case rel => exact ⟨i + 1, by omega, by go_num, rfl, rfl⟩
    · obtain rfl : i = 11 := by omega
      go_wp2_with fail
      go_ret
      exact ⟨rfl, HZ3.out⟩
end Go.Proofs.YtcdidmohgcegmaaDoor
