/- Contracts of canonical, sameTokens and Show. Conditions: each names its own. -/
import Derived.Test.YtcdidmohgcegmaaDoorSm
import Derived.Test.YtcdidmohgcegmaaDoorBm
import Derived.Test.YtcdidmohgcegmaaDoorCau
import Derived.Test.YtcdidmohgcegmaaDoorAwa
import Derived.StillTailTactics
/- Contract of canonical at a Part. Conditions: the two tokens lie in the slice; the text has at most 65536 bytes. -/
namespace Go.Proofs.YtcdidmohgcegmaaDoor
open Go.RowKit
set_option maxRecDepth 100000

attribute [local irreducible] wpStill in
set_option maxHeartbeats 1600000 in
theorem canonical_part0 (k n cap i : Nat) (tt : ByteArray) (tp tl0 tc : Nat) (w : World) (hg : Gl w) (hi : i < n) (hn : n ≤ 1000000) (ht : TokIn w k i ⟨9, tt, tp, tl0, tc⟩) (hk : k < w.heap.size) (hs : tt.size ≤ 65536) (hip : i = 0) :
    Calls Tryd.prog 32 #[.slice (some ⟨k, 0, none⟩) n cap, .int .i64 i] w fun e w' => e = .returned (.string (bytesOf (partL false tt.data.toList))) ∧ Below w.heap.size w w' := by
  subst hip
  obtain ⟨t0, t1, t2, t3, t4⟩ := ht
  simp only at t0 t1 t2 t3 t4
  have i0 : (0 : Int) ≤ ((0 : Nat) : Int) := by omega
  have i1 : ((0 : Nat) : Int) < (n : Int) := by omega
  have HG := Lib.hid (Gl.alloc hg (.cells #[I 9, .string tt, I tp, I tl0, I tc] 34))
  have HB0 := Lib.hid ((Below.refl w.heap.size w).alloc (Nat.le_refl _) (.cells #[I 9, .string tt, I tp, I tl0, I tc] 34))
  have HSZ : Hid (w.heap.size ≤ (w.alloc (.cells #[I 9, .string tt, I tp, I tl0, I tc] 34)).heap.size) := Lib.hid (by simp)
  have HPF := Lib.hid (fun (b : Bool) (W : World) (hW : Gl W) => partForm_any tt b W hW hs)
  have hb1 := heap_alloc_new w (.cells #[I 9, .string tt, I tp, I tl0, I tc] 34)
  have b1 : (w.alloc (.cells #[I 9, .string tt, I tp, I tl0, I tc] 34)).cell? ⟨w.heap.size, 1, none⟩ = some (.string tt) := by simp [cell_of_row _ _ _ _ _ _ hb1]
  have H1 := Lib.hid b1
  clear hg hb1 b1
  go_enter Tryd.func32, Tryd.ntmps32
  go_upto_region 16 with fail
  have a1 := H1.out
  generalize w.alloc (.cells #[I 9, .string tt, I tp, I tl0, I tc] 34) = wb at *
  go_still_tail 22, (by kernel_rfl)
  change wpList _ _ _ _ _ wb.drew
  go_wp2_with (go_at_call 46; refine (HPF.out _ _ HG.out.drew).mono ?_; rintro e w' ⟨rfl, hb⟩)
  go_ret
  exact ⟨rfl, HB0.out.trans (Below.mono (B' := w.heap.size) (Below.trans (Below.drew (Below.refl _ wb)) hb) HSZ.out)⟩
attribute [local irreducible] wpStill in
set_option maxHeartbeats 1600000 in
theorem canonical_part1 (k n cap i : Nat) (tt : ByteArray) (tp tl0 tc : Nat) (w : World) (hg : Gl w) (hi : i < n) (hn : n ≤ 1000000) (ht : TokIn w k i ⟨9, tt, tp, tl0, tc⟩) (hk : k < w.heap.size) (hs : tt.size ≤ 65536) (hip : 0 < i) (u0 : w.cell? ⟨k, (i - 1) * 5, none⟩ = some (I 0)) :
    Calls Tryd.prog 32 #[.slice (some ⟨k, 0, none⟩) n cap, .int .i64 i] w fun e w' => e = .returned (.string (bytesOf (partL true tt.data.toList))) ∧ Below w.heap.size w w' := by
  obtain ⟨t0, t1, t2, t3, t4⟩ := ht
  simp only at t0 t1 t2 t3 t4
  have i0 : (0 : Int) ≤ (i : Int) := by omega
  have i1 : (i : Int) < (n : Int) := by omega
  have HG := Lib.hid (Gl.alloc hg (.cells #[I 9, .string tt, I tp, I tl0, I tc] 34))
  have HB0 := Lib.hid ((Below.refl w.heap.size w).alloc (Nat.le_refl _) (.cells #[I 9, .string tt, I tp, I tl0, I tc] 34))
  have HSZ : Hid (w.heap.size ≤ (w.alloc (.cells #[I 9, .string tt, I tp, I tl0, I tc] 34)).heap.size) := Lib.hid (by simp)
  have HPF := Lib.hid (fun (b : Bool) (W : World) (hW : Gl W) => partForm_any tt b W hW hs)
  have hb1 := heap_alloc_new w (.cells #[I 9, .string tt, I tp, I tl0, I tc] 34)
  have b1 : (w.alloc (.cells #[I 9, .string tt, I tp, I tl0, I tc] 34)).cell? ⟨w.heap.size, 1, none⟩ = some (.string tt) := by simp [cell_of_row _ _ _ _ _ _ hb1]
  have H1 := Lib.hid b1
  clear hg hb1 b1
  have H0 : Hid ((w.alloc (.cells #[I 9, .string tt, I tp, I tl0, I tc] 34)).cell? ⟨k, (i - 1) * 5, none⟩ = some (I 0)) := Lib.hid ((World.cell?_alloc_lt _ _ _ hk).trans u0)
  have g0 : decide ((0 : Int) < (i : Int)) = true := decide_eq_true (by omega)
  have g0' : decide (0 < i) = true := decide_eq_true hip
  have g1 : (0 : Int) < (i : Int) := by omega
  have w1 : IntKind.i64.wrap ((i : Int) - 1) = ((i - 1 : Nat) : Int) := by rw [show (i : Int) - 1 = ((i - 1 : Nat) : Int) by omega]; exact IntWalk.i64_in _ (by omega)
  have w2 : (0 : Int) ≤ ((i - 1 : Nat) : Int) := by omega
  have w3 : ((i - 1 : Nat) : Int) < (n : Int) := by omega
  have w4 : ((i - 1 : Nat) : Int).toNat = i - 1 := by omega
  clear u0
  go_enter Tryd.func32, Tryd.ntmps32
  go_upto_region 16 with fail
  have a1 := H1.out
  have a0 := H0.out
  generalize w.alloc (.cells #[I 9, .string tt, I tp, I tl0, I tc] 34) = wb at *
  go_still_tail 22, (by kernel_rfl)
  change wpList _ _ _ _ _ wb.drew
  go_wp2_with (go_at_call 46; refine (HPF.out _ _ HG.out.drew).mono ?_; rintro e w' ⟨rfl, hb⟩)
  go_ret
  exact ⟨rfl, HB0.out.trans (Below.mono (B' := w.heap.size) (Below.trans (Below.drew (Below.refl _ wb)) hb) HSZ.out)⟩
attribute [local irreducible] wpStill in
set_option maxHeartbeats 1600000 in
theorem canonical_part2 (k n cap i : Nat) (tt : ByteArray) (tp tl0 tc : Nat) (w : World) (hg : Gl w) (hi : i < n) (hn : n ≤ 1000000) (ht : TokIn w k i ⟨9, tt, tp, tl0, tc⟩) (hk : k < w.heap.size) (hs : tt.size ≤ 65536) (hip : 0 < i) (u0 : w.cell? ⟨k, (i - 1) * 5, none⟩ = some (I 1)) :
    Calls Tryd.prog 32 #[.slice (some ⟨k, 0, none⟩) n cap, .int .i64 i] w fun e w' => e = .returned (.string (bytesOf (partL true tt.data.toList))) ∧ Below w.heap.size w w' := by
  obtain ⟨t0, t1, t2, t3, t4⟩ := ht
  simp only at t0 t1 t2 t3 t4
  have i0 : (0 : Int) ≤ (i : Int) := by omega
  have i1 : (i : Int) < (n : Int) := by omega
  have HG := Lib.hid (Gl.alloc hg (.cells #[I 9, .string tt, I tp, I tl0, I tc] 34))
  have HB0 := Lib.hid ((Below.refl w.heap.size w).alloc (Nat.le_refl _) (.cells #[I 9, .string tt, I tp, I tl0, I tc] 34))
  have HSZ : Hid (w.heap.size ≤ (w.alloc (.cells #[I 9, .string tt, I tp, I tl0, I tc] 34)).heap.size) := Lib.hid (by simp)
  have HPF := Lib.hid (fun (b : Bool) (W : World) (hW : Gl W) => partForm_any tt b W hW hs)
  have hb1 := heap_alloc_new w (.cells #[I 9, .string tt, I tp, I tl0, I tc] 34)
  have b1 : (w.alloc (.cells #[I 9, .string tt, I tp, I tl0, I tc] 34)).cell? ⟨w.heap.size, 1, none⟩ = some (.string tt) := by simp [cell_of_row _ _ _ _ _ _ hb1]
  have H1 := Lib.hid b1
  clear hg hb1 b1
  have H0 : Hid ((w.alloc (.cells #[I 9, .string tt, I tp, I tl0, I tc] 34)).cell? ⟨k, (i - 1) * 5, none⟩ = some (I 1)) := Lib.hid ((World.cell?_alloc_lt _ _ _ hk).trans u0)
  have g0 : decide ((0 : Int) < (i : Int)) = true := decide_eq_true (by omega)
  have g0' : decide (0 < i) = true := decide_eq_true hip
  have g1 : (0 : Int) < (i : Int) := by omega
  have w1 : IntKind.i64.wrap ((i : Int) - 1) = ((i - 1 : Nat) : Int) := by rw [show (i : Int) - 1 = ((i - 1 : Nat) : Int) by omega]; exact IntWalk.i64_in _ (by omega)
  have w2 : (0 : Int) ≤ ((i - 1 : Nat) : Int) := by omega
  have w3 : ((i - 1 : Nat) : Int) < (n : Int) := by omega
  have w4 : ((i - 1 : Nat) : Int).toNat = i - 1 := by omega
  clear u0
  go_enter Tryd.func32, Tryd.ntmps32
  go_upto_region 16 with fail
  have a1 := H1.out
  have a0 := H0.out
  generalize w.alloc (.cells #[I 9, .string tt, I tp, I tl0, I tc] 34) = wb at *
  go_still_tail 22, (by kernel_rfl)
  change wpList _ _ _ _ _ wb.drew
  go_wp2_with (go_at_call 46; refine (HPF.out _ _ HG.out.drew).mono ?_; rintro e w' ⟨rfl, hb⟩)
  go_ret
  exact ⟨rfl, HB0.out.trans (Below.mono (B' := w.heap.size) (Below.trans (Below.drew (Below.refl _ wb)) hb) HSZ.out)⟩
attribute [local irreducible] wpStill in
set_option maxHeartbeats 1600000 in
theorem canonical_part3 (k n cap i : Nat) (tt : ByteArray) (tp tl0 tc : Nat) (w : World) (hg : Gl w) (hi : i < n) (hn : n ≤ 1000000) (ht : TokIn w k i ⟨9, tt, tp, tl0, tc⟩) (hk : k < w.heap.size) (hs : tt.size ≤ 65536) (uk : Nat) (hip : 0 < i) (u0 : w.cell? ⟨k, (i - 1) * 5, none⟩ = some (I uk)) (f00 : ((uk : Int) == 0) = false) (f11 : ((uk : Int) == 1) = false) :
    Calls Tryd.prog 32 #[.slice (some ⟨k, 0, none⟩) n cap, .int .i64 i] w fun e w' => e = .returned (.string (bytesOf (partL false tt.data.toList))) ∧ Below w.heap.size w w' := by
  obtain ⟨t0, t1, t2, t3, t4⟩ := ht
  simp only at t0 t1 t2 t3 t4
  have i0 : (0 : Int) ≤ (i : Int) := by omega
  have i1 : (i : Int) < (n : Int) := by omega
  have HG := Lib.hid (Gl.alloc hg (.cells #[I 9, .string tt, I tp, I tl0, I tc] 34))
  have HB0 := Lib.hid ((Below.refl w.heap.size w).alloc (Nat.le_refl _) (.cells #[I 9, .string tt, I tp, I tl0, I tc] 34))
  have HSZ : Hid (w.heap.size ≤ (w.alloc (.cells #[I 9, .string tt, I tp, I tl0, I tc] 34)).heap.size) := Lib.hid (by simp)
  have HPF := Lib.hid (fun (b : Bool) (W : World) (hW : Gl W) => partForm_any tt b W hW hs)
  have hb1 := heap_alloc_new w (.cells #[I 9, .string tt, I tp, I tl0, I tc] 34)
  have b1 : (w.alloc (.cells #[I 9, .string tt, I tp, I tl0, I tc] 34)).cell? ⟨w.heap.size, 1, none⟩ = some (.string tt) := by simp [cell_of_row _ _ _ _ _ _ hb1]
  have H1 := Lib.hid b1
  clear hg hb1 b1
  have H0 : Hid ((w.alloc (.cells #[I 9, .string tt, I tp, I tl0, I tc] 34)).cell? ⟨k, (i - 1) * 5, none⟩ = some (I uk)) := Lib.hid ((World.cell?_alloc_lt _ _ _ hk).trans u0)
  have g0 : decide ((0 : Int) < (i : Int)) = true := decide_eq_true (by omega)
  have g0' : decide (0 < i) = true := decide_eq_true hip
  have g1 : (0 : Int) < (i : Int) := by omega
  have w1 : IntKind.i64.wrap ((i : Int) - 1) = ((i - 1 : Nat) : Int) := by rw [show (i : Int) - 1 = ((i - 1 : Nat) : Int) by omega]; exact IntWalk.i64_in _ (by omega)
  have w2 : (0 : Int) ≤ ((i - 1 : Nat) : Int) := by omega
  have w3 : ((i - 1 : Nat) : Int) < (n : Int) := by omega
  have w4 : ((i - 1 : Nat) : Int).toNat = i - 1 := by omega
  clear u0
  go_enter Tryd.func32, Tryd.ntmps32
  go_upto_region 16 with fail
  have a1 := H1.out
  have a0 := H0.out
  generalize w.alloc (.cells #[I 9, .string tt, I tp, I tl0, I tc] 34) = wb at *
  go_still_tail 22, (by kernel_rfl)
  change wpList _ _ _ _ _ wb.drew
  go_wp2_with (go_at_call 46; refine (HPF.out _ _ HG.out.drew).mono ?_; rintro e w' ⟨rfl, hb⟩)
  go_ret
  exact ⟨rfl, HB0.out.trans (Below.mono (B' := w.heap.size) (Below.trans (Below.drew (Below.refl _ wb)) hb) HSZ.out)⟩
end Go.Proofs.YtcdidmohgcegmaaDoor
/- Contract of canonical. Conditions: the two tokens lie in the slice; the texts have at most 65536 bytes. -/
namespace Go.Proofs.YtcdidmohgcegmaaDoor
open Go.RowKit
set_option maxRecDepth 100000

theorem add_str (a b : ByteArray) (ha : a.size ≤ 1000000) (hb : b.size ≤ 1000000) : ∀ W : World, (Op.stringOp .add a b).run Tryd.prog W = .ok (.string (a ++ b)) W := fun W => run_string_add_sum (P := Tryd.prog) (w := W) _ _ (by omega)
theorem str_bytes (t : ByteArray) : t = bytesOf t.data.toList := (bytesOf_data t).symm
def canP (i : Nat) (u : Tok) : Nat := if i = 0 then 15 else u.kind

set_option maxHeartbeats 3200000 in
theorem canonical_any (k n cap i : Nat) (t u : Tok) (w : World) (hg : Gl w) (hi : i < n) (hn : n ≤ 1000000) (ht : TokIn w k i t) (hk : k < w.heap.size) (hu : 0 < i → TokIn w k (i - 1) u) (hs : t.text.size ≤ 65536) :
    Calls Tryd.prog 32 #[.slice (some ⟨k, 0, none⟩) n cap, .int .i64 i] w fun e w' => e = .returned (.string (bytesOf (canL (canP i u) t))) ∧ Below w.heap.size w w' := by
  obtain ⟨t0, t1, t2, t3, t4⟩ := ht
  have i0 : (0 : Int) ≤ (i : Int) := by omega
  have i1 : (i : Int) < (n : Int) := by omega
  have HG := Lib.hid hg
  have HS := Lib.hid hs
  have HU := Lib.hid hu
  have hbl := (Below.refl w.heap.size w).alloc (Nat.le_refl _) (.cells #[I t.kind, .string t.text, I t.pos, I t.line, I t.col] 34)
  have HB0 := Lib.hid hbl
  clear hg hs hu hbl
  obtain ⟨tk0, tt, tp, tl0, tc⟩ := t
  simp only at t0 t1 t2 t3 t4 HS HB0
  have HSZ := Lib.hid (show tt.size ≤ 1000000 by have := HS.out; omega)
  by_cases c0 : tk0 = 0 ∨ tk0 = 1
  · have hcan : canL (canP i u) ⟨tk0, tt, tp, tl0, tc⟩ = if canP i u = 9 then 36 :: tt.data.toList else tt.data.toList := by unfold canL tl; rw [if_pos c0]
    rw [hcan]
    clear hcan
    have hor : ((tk0 : Int) == 0) = true ∨ ((tk0 : Int) == 0) = false ∧ ((tk0 : Int) == 1) = true := by
      rcases c0 with h | h
      · exact .inl (by simp [h])
      · exact .inr ⟨by simp [h], by simp [h]⟩
    by_cases hp9 : canP i u = 9
    · have hip : 0 < i := by unfold canP at hp9; split at hp9 <;> omega
      have hu9 : u.kind = 9 := by unfold canP at hp9; rw [if_neg (by omega)] at hp9; exact hp9
      obtain ⟨u0, _, _, _, _⟩ := HU.out hip
      rw [hu9] at u0
      have g0 : decide ((0 : Int) < (i : Int)) = true := decide_eq_true (by omega)
      have g1 : (0 : Int) < (i : Int) := by omega
      have w1 : IntKind.i64.wrap ((i : Int) - 1) = ((i - 1 : Nat) : Int) := by rw [show (i : Int) - 1 = ((i - 1 : Nat) : Int) by omega]; exact IntWalk.i64_in _ (by omega)
      have w2 : (0 : Int) ≤ ((i - 1 : Nat) : Int) := by omega
      have w3 : ((i - 1 : Nat) : Int) < (n : Int) := by omega
      have w4 : ((i - 1 : Nat) : Int).toNat = i - 1 := by omega
      have hadd := add_str ⟨#[36]⟩ tt (by decide) HSZ.out
      have hres : (⟨#[36]⟩ : ByteArray) ++ tt = bytesOf (36 :: tt.data.toList) := by
        have := bytesOf_append [36] tt.data.toList
        rw [bytesOf_data] at this
        exact this
      rw [if_pos hp9, ← hres]
      clear hp9 hip hu9 hres c0
      rcases hor with h | ⟨h, h'⟩
      all_goals
        go_enter Tryd.func32, Tryd.ntmps32
        go_wp2_with fail
        go_ret
        exact ⟨rfl, HB0.out⟩
    · rw [if_neg hp9, bytesOf_data]
      by_cases hip : 0 < i
      · have hu9 : ¬(u.kind = 9) := by unfold canP at hp9; rw [if_neg (by omega)] at hp9; exact hp9
        obtain ⟨u0, _, _, _, _⟩ := HU.out hip
        have g9 : ((u.kind : Int) == 9) = false := beq_eq_false_iff_ne.2 (by omega)
        have g0 : decide ((0 : Int) < (i : Int)) = true := decide_eq_true (by omega)
        have g1 : (0 : Int) < (i : Int) := by omega
        have w1 : IntKind.i64.wrap ((i : Int) - 1) = ((i - 1 : Nat) : Int) := by rw [show (i : Int) - 1 = ((i - 1 : Nat) : Int) by omega]; exact IntWalk.i64_in _ (by omega)
        have w2 : (0 : Int) ≤ ((i - 1 : Nat) : Int) := by omega
        have w3 : ((i - 1 : Nat) : Int) < (n : Int) := by omega
        have w4 : ((i - 1 : Nat) : Int).toNat = i - 1 := by omega
        clear hp9 hip hu9 c0
        rcases hor with h | ⟨h, h'⟩
        all_goals
          go_enter Tryd.func32, Tryd.ntmps32
          go_wp2_with fail
          go_ret
          exact ⟨rfl, HB0.out⟩
      · have g0 : decide ((0 : Int) < (i : Int)) = false := decide_eq_false (by omega)
        have g0' : decide (0 < i) = false := decide_eq_false hip
        clear hp9 c0
        rcases hor with h | ⟨h, h'⟩
        all_goals
          go_enter Tryd.func32, Tryd.ntmps32
          go_wp2_with fail
          go_ret
          exact ⟨rfl, HB0.out⟩
  · have f0 : ((tk0 : Int) == 0) = false := beq_eq_false_iff_ne.2 (by omega)
    have f1 : ((tk0 : Int) == 1) = false := beq_eq_false_iff_ne.2 (by omega)
    by_cases c5 : tk0 = 5
    · have hcan : canL (canP i u) ⟨tk0, tt, tp, tl0, tc⟩ = tt.data.toList ++ [76] := by unfold canL tl; rw [if_neg c0, if_pos c5]
      have hres : tt ++ (⟨#[76]⟩ : ByteArray) = bytesOf (tt.data.toList ++ [76]) := by
        have := bytesOf_append tt.data.toList [76]
        rw [bytesOf_data] at this
        exact this
      have hadd := add_str tt ⟨#[76]⟩ HSZ.out (by decide)
      rw [hcan, ← hres]
      clear hcan hres c0
      subst c5
      go_enter Tryd.func32, Tryd.ntmps32
      go_wp2_with fail
      go_ret
      exact ⟨rfl, HB0.out⟩
    have f5 : ((tk0 : Int) == 5) = false := beq_eq_false_iff_ne.2 (by omega)
    by_cases c6 : tk0 = 6
    · have hcan : canL (canP i u) ⟨tk0, tt, tp, tl0, tc⟩ = [39] ++ escL [39] [123] tt.data.toList ++ [39] := by unfold canL tl; rw [if_neg c0, if_neg c5, if_pos c6]; rfl
      have hlen := escL_four (escB_four [39] [123]) tt.data.toList
      have hl2 : tt.data.toList.length = tt.size := by simp
      have hE : (bytesOf (escL [39] [123] tt.data.toList)).size ≤ 900000 := by rw [bytesOf_size]; have := HS.out; omega
      have hadd := add_str ⟨#[39]⟩ (bytesOf (escL [39] [123] tt.data.toList)) (by decide) (by omega)
      have hadd2 := add_str (⟨#[39]⟩ ++ bytesOf (escL [39] [123] tt.data.toList)) ⟨#[39]⟩ (by rw [ByteArray.size_append]; have : (⟨#[39]⟩ : ByteArray).size = 1 := rfl; omega) (by decide)
      have HEX := Lib.hid (fun (W : World) => (escaped_any tt ⟨#[39]⟩ ⟨#[123]⟩ W HS.out : Calls Tryd.prog 45 #[.string tt, .string ⟨#[39]⟩, .string ⟨#[123]⟩] W fun e w' => e = .returned (.string (bytesOf (escL [39] [123] tt.data.toList))) ∧ Below W.heap.size W w'))
      rw [hcan, ← bytesOf_append, ← bytesOf_append]
      change Calls _ _ _ _ fun e w' => e = .returned (.string (⟨#[39]⟩ ++ bytesOf (escL [39] [123] tt.data.toList) ++ ⟨#[39]⟩)) ∧ Below w.heap.size w w'
      clear hcan c0 c5 hlen hl2 hE
      generalize bytesOf (escL [39] [123] tt.data.toList) = E at *
      subst c6
      go_enter Tryd.func32, Tryd.ntmps32
      go_wp2_with fail
      refine (HEX.out _).mono ?_
      rintro e w' ⟨rfl, hb⟩
      go_wp2_with fail
      go_ret
      exact ⟨rfl, HB0.out.trans (Below.mono hb (by simp))⟩
    have f6 : ((tk0 : Int) == 6) = false := beq_eq_false_iff_ne.2 (by omega)
    by_cases c7 : tk0 = 7
    · have hcan : canL (canP i u) ⟨tk0, tt, tp, tl0, tc⟩ = [34] ++ escL [34] [] tt.data.toList ++ [34] := by unfold canL tl; rw [if_neg c0, if_neg c5, if_neg c6, if_pos c7]; rfl
      have hlen := escL_four (escB_four [34] []) tt.data.toList
      have hl2 : tt.data.toList.length = tt.size := by simp
      have hE : (bytesOf (escL [34] [] tt.data.toList)).size ≤ 900000 := by rw [bytesOf_size]; have := HS.out; omega
      have hadd := add_str ⟨#[34]⟩ (bytesOf (escL [34] [] tt.data.toList)) (by decide) (by omega)
      have hadd2 := add_str (⟨#[34]⟩ ++ bytesOf (escL [34] [] tt.data.toList)) ⟨#[34]⟩ (by rw [ByteArray.size_append]; have : (⟨#[34]⟩ : ByteArray).size = 1 := rfl; omega) (by decide)
      have HEX := Lib.hid (fun (W : World) => (escaped_any tt ⟨#[34]⟩ ⟨#[]⟩ W HS.out : Calls Tryd.prog 45 #[.string tt, .string ⟨#[34]⟩, .string ⟨#[]⟩] W fun e w' => e = .returned (.string (bytesOf (escL [34] [] tt.data.toList))) ∧ Below W.heap.size W w'))
      rw [hcan, ← bytesOf_append, ← bytesOf_append]
      change Calls _ _ _ _ fun e w' => e = .returned (.string (⟨#[34]⟩ ++ bytesOf (escL [34] [] tt.data.toList) ++ ⟨#[34]⟩)) ∧ Below w.heap.size w w'
      clear hcan c0 c5 c6 hlen hl2 hE
      generalize bytesOf (escL [34] [] tt.data.toList) = E at *
      subst c7
      go_enter Tryd.func32, Tryd.ntmps32
      go_wp2_with fail
      refine (HEX.out _).mono ?_
      rintro e w' ⟨rfl, hb⟩
      go_wp2_with fail
      go_ret
      exact ⟨rfl, HB0.out.trans (Below.mono hb (by simp))⟩
    have f7 : ((tk0 : Int) == 7) = false := beq_eq_false_iff_ne.2 (by omega)
    by_cases c8 : tk0 = 8
    · have hcan : canL (canP i u) ⟨tk0, tt, tp, tl0, tc⟩ = tt.data.toList ++ [34] := by unfold canL tl; rw [if_neg c0, if_neg c5, if_neg c6, if_neg c7, if_pos c8]
      have hres : tt ++ (⟨#[34]⟩ : ByteArray) = bytesOf (tt.data.toList ++ [34]) := by
        have := bytesOf_append tt.data.toList [34]
        rw [bytesOf_data] at this
        exact this
      have hadd := add_str tt ⟨#[34]⟩ HSZ.out (by decide)
      rw [hcan, ← hres]
      clear hcan hres c0 c5 c6 c7
      subst c8
      go_enter Tryd.func32, Tryd.ntmps32
      go_wp2_with fail
      go_ret
      exact ⟨rfl, HB0.out⟩
    have f8 : ((tk0 : Int) == 8) = false := beq_eq_false_iff_ne.2 (by omega)
    by_cases c9 : tk0 = 9
    · have hcan : canL (canP i u) ⟨tk0, tt, tp, tl0, tc⟩ = partL (canP i u == 0 || canP i u == 1) tt.data.toList := by unfold canL tl; rw [if_neg c0, if_neg c5, if_neg c6, if_neg c7, if_neg c8, if_pos c9]
      rw [hcan]
      clear hcan c0 c5 c6 c7 c8
      subst c9
      have htk : TokIn w k i ⟨9, tt, tp, tl0, tc⟩ := ⟨t0, t1, t2, t3, t4⟩
      by_cases hip : 0 < i
      · have hcp : canP i u = u.kind := by unfold canP; rw [if_neg (by omega)]
        rw [hcp]
        obtain ⟨u0, _, _, _, _⟩ := HU.out hip
        clear hcp
        generalize u.kind = uk at *
        by_cases k0 : uk = 0
        · subst k0
          exact canonical_part1 k n cap i tt tp tl0 tc w HG.out hi hn htk hk HS.out hip u0
        · by_cases k1 : uk = 1
          · subst k1
            exact canonical_part2 k n cap i tt tp tl0 tc w HG.out hi hn htk hk HS.out hip u0
          · have e00 : (uk == 0) = false := by simpa using k0
            have e11 : (uk == 1) = false := by simpa using k1
            rw [e00, e11]
            exact canonical_part3 k n cap i tt tp tl0 tc w HG.out hi hn htk hk HS.out uk hip u0 (beq_eq_false_iff_ne.2 (by omega)) (beq_eq_false_iff_ne.2 (by omega))
      · have hcp : canP i u = 15 := by unfold canP; rw [if_pos (by omega)]
        rw [hcp]
        exact canonical_part0 k n cap i tt tp tl0 tc w HG.out hi hn htk hk HS.out (by omega)
    have f9 : ((tk0 : Int) == 9) = false := beq_eq_false_iff_ne.2 (by omega)
    by_cases c10 : tk0 = 10
    · have hcan : canL (canP i u) ⟨tk0, tt, tp, tl0, tc⟩ = [34] := by unfold canL tl; rw [if_neg c0, if_neg c5, if_neg c6, if_neg c7, if_neg c8, if_neg c9, if_pos c10]
      rw [hcan]
      clear hcan c0 c5 c6 c7 c8 c9
      subst c10
      go_enter Tryd.func32, Tryd.ntmps32
      go_wp2_with fail
      go_ret
      exact ⟨rfl, HB0.out⟩
    have f10 : ((tk0 : Int) == 10) = false := beq_eq_false_iff_ne.2 (by omega)
    have hcan : canL (canP i u) ⟨tk0, tt, tp, tl0, tc⟩ = tt.data.toList := by unfold canL tl; rw [if_neg c0, if_neg c5, if_neg c6, if_neg c7, if_neg c8, if_neg c9, if_neg c10]
    rw [hcan, bytesOf_data]
    clear hcan c0 c5 c6 c7 c8 c9 c10
    go_enter Tryd.func32, Tryd.ntmps32
    go_wp2_with fail
    go_ret
    exact ⟨rfl, HB0.out⟩
end Go.Proofs.YtcdidmohgcegmaaDoor
/- Contract of sameTokens on two lists of one length with the same kinds and texts. Conditions: both lie in the world. -/
namespace Go.Proofs.YtcdidmohgcegmaaDoor
open Go.RowKit
set_option maxRecDepth 100000

set_option maxHeartbeats 1600000 in
theorem sameTokens_any (k1 c1 k2 c2 : Nat) (l m : List Tok) (w : World) (hn : l.length ≤ 1000000) (hml : m.length = l.length) (h1 : ∀ i, i < l.length → TokIn w k1 i (tk m i)) (h2 : ∀ i, i < l.length → TokIn w k2 i (tk l i))
    (hk1 : k1 < w.heap.size) (hk2 : k2 < w.heap.size) (hkt : ∀ i, i < l.length → (tk m i).kind = (tk l i).kind ∧ (tk m i).text = (tk l i).text) :
    Calls Tryd.prog 34 #[.slice (some ⟨k1, 0, none⟩) l.length c1, .slice (some ⟨k2, 0, none⟩) l.length c2] w fun e w' => e = .returned (.bool true) ∧ Below w.heap.size w w' := by
  have HIN := Lib.hid h2
  have HIN2 := Lib.hid h1
  have HKT := Lib.hid hkt
  clear h1 h2 hkt
  go_enter Tryd.func34, Tryd.ntmps34
  go_wp2_with fail
  go_loopg [13] (l.length + 1) (fun n v wy => ∃ j : Nat, j ≤ l.length ∧ v = .int .i64 j ∧ Hid (n = l.length + 1 - j) ∧ Hid (Below w.heap.size w wy))
  case atStart => exact ⟨0, by omega, rfl, rfl, (Below.refl _ _)⟩
  case round =>
    obtain ⟨j, hj, rfl, HN, HBy⟩ := hrel
    by_cases hlt : j < l.length
    · have e1' : decide ((j : Int) < (l.length : Int)) = true := decide_eq_true (by omega)
      have e2' : (j : Int) < (l.length : Int) := by omega
      obtain ⟨t0, t1, t2, t3, t4⟩ := (HIN.out j hlt).below HBy.out hk2
      obtain ⟨u0, u1, u2, u3, u4⟩ := (HIN2.out j hlt).below HBy.out hk1
      obtain ⟨y0, y1⟩ := HKT.out j hlt
      rw [y0] at u0
      rw [y1] at u1
      clear y0 y1 t2 t3 t4 u2 u3 u4
      generalize (tk l j).kind = tk0 at *
      generalize (tk l j).text = tt0 at *
      go_wp2_with fail
      go_quiet (fail)
      go_wp2_with fail
      go_roundg (l.length + 1 - (j + 1))
      case measure => have := HN.out; omega
      case rel => exact ⟨j + 1, by omega, by go_num, rfl, below_drewN HBy.out _⟩
    · obtain rfl : j = l.length := by omega
      have e1' : decide ((l.length : Int) < (l.length : Int)) = false := decide_eq_false (by omega)
      go_wp2_with fail
      go_ret
      exact ⟨rfl, HBy.out⟩
theorem sameTokens_nil (l1 l2 : Value) (w : World) (h1 : ∃ a c, l1 = .slice a 0 c) (h2 : ∃ a c, l2 = .slice a 0 c) :
    Calls Tryd.prog 34 #[l1, l2] w fun e w' => e = .returned (.bool true) ∧ Below w.heap.size w w' := by
  obtain ⟨a1, c1, rfl⟩ := h1
  obtain ⟨a2, c2, rfl⟩ := h2
  go_enter Tryd.func34, Tryd.ntmps34
  go_wp2_with fail
  go_loopg [13] 1 (fun n v wy => v = .int .i64 0 ∧ Hid (n = 1) ∧ Hid (Below w.heap.size w wy))
  case atStart => exact ⟨rfl, rfl, (Below.refl _ _)⟩
  case round =>
    obtain ⟨rfl, HN, HBy⟩ := hrel
    go_wp2_with fail
    go_ret
    exact ⟨rfl, HBy.out⟩
end Go.Proofs.YtcdidmohgcegmaaDoor
/- Contract of Show on the tokens that Raw returned. Conditions: canonical's contract (handed in), the tokens lie in the world. -/
namespace Go.Proofs.YtcdidmohgcegmaaDoor
open Go.RowKit
set_option maxRecDepth 100000

def CanSaid : Prop := ∀ (k n cap i : Nat) (t u : Tok) (w : World) (hg : Gl w) (hi : i < n) (hn : n ≤ 1000000) (ht : TokIn w k i t) (hk : k < w.heap.size) (hu : 0 < i → TokIn w k (i - 1) u) (hs : t.text.size ≤ 65536),
    Calls Tryd.prog 32 #[.slice (some ⟨k, 0, none⟩) n cap, .int .i64 i] w fun e w' => e = .returned (.string (bytesOf (canL (canP i u) t))) ∧ Below w.heap.size w w'

theorem row_ofb {w : World} {B : Nat} {lv : Value} {l : List Tok} (h : w.ownsRow B 34 5 lv l.length (l.flatMap Tok.cells)) (h0 : 0 < l.length) :
    ∃ k cap, lv = .slice (some ⟨k, 0, none⟩) l.length cap ∧ k < w.heap.size ∧ l.length ≤ cap ∧ l.length ≤ maxLen ∧ ∀ i, i < l.length → TokIn w k i (tk l i) := by
  obtain ⟨k, cap, cur, hv, hh, hcap, hr⟩ := own_cells h h0
  obtain ⟨k', cap', hv', hk', hin⟩ := in_form (own_base h (Nat.zero_le _)) h0
  have hm : l.length ≤ maxLen := by
    rcases h.2 with ⟨_, h2⟩ | ⟨_, _, _, _, _, _, h1, h2, _⟩
    · omega
    · omega
  rw [hv] at hv'
  cases hv'
  exact ⟨k, cap, hv, hk', hcap, hm, hin⟩
theorem nil_form {w : World} {B : Nat} {lv : Value} (h : w.ownsRow B 34 5 lv 0 []) : ∃ a c, lv = .slice a 0 c := by
  rcases h.2 with ⟨rfl, _⟩ | ⟨g, cap, _, rfl, _⟩
  · exact ⟨none, 0, rfl⟩
  · exact ⟨some ⟨g, 0, none⟩, cap, rfl⟩
theorem bytesOf_list (l : List UInt8) : (bytesOf l).data.toList = l := by simp [bytesOf]
theorem tk_eq (l : List Tok) (i : Nat) (h : i < l.length) : tk l i = l[i] := by simp [tk, List.getD, List.getElem?_eq_getElem h]
theorem lastK_take (l : List Tok) (i : Nat) (h : i < l.length) : lastK 15 (l.take i) = canP i (tk l (i - 1)) := by
  unfold canP
  split
  · next h0 => subst h0; rfl
  · next h0 =>
    obtain ⟨j, rfl⟩ := Nat.exists_eq_succ_of_ne_zero h0
    rw [List.take_succ_eq_append_getElem (show j < l.length by omega), lastK_append, ← tk_eq l j (by omega)]
    rfl
theorem sho_take (l : List Tok) (i : Nat) (h : i < l.length) : shoL 15 (l.take (i + 1)) = shoL 15 (l.take i) ++ (sepL (canP i (tk l (i - 1))) (tk l i) ++ canL (canP i (tk l (i - 1))) (tk l i)) := by
  rw [List.take_succ_eq_append_getElem h, shoL_append, lastK_take l i h, ← tk_eq l i h]
  simp [shoL]
theorem sho_le (l : List Tok) (i : Nat) : (shoL 15 (l.take i)).length ≤ (shoL 15 l).length := by
  have : shoL 15 l = shoL 15 (l.take i) ++ shoL (lastK 15 (l.take i)) (l.drop i) := by rw [← shoL_append, List.take_append_drop]
  rw [this]; simp
theorem sep_first (u t : Tok) : sepL (canP 0 u) t = [] := by simp [sepL, canP]
theorem sep_spc (i : Nat) (u t : Tok) (h : 0 < i) (hk : u.kind ≤ 10) : sepL (canP i u) t = if spcM u t = true then [32] else [] := by
  have hc : canP i u = u.kind := by unfold canP; rw [if_neg (by omega)]
  rw [hc]
  unfold sepL spcM
  by_cases h8 : u.kind = 8 <;> by_cases h9 : u.kind = 9 <;> by_cases h9' : t.kind = 9 <;> simp [h8, h9, h9'] <;> omega

theorem spaced_b (u t : Tok) (w : World) : Calls Tryd.prog 29 #[.agg #[I u.kind, .string u.text, I u.pos, I u.line, I u.col], .agg #[I t.kind, .string t.text, I t.pos, I t.line, I t.col]] w fun e w' => e = .returned (.bool (spcM u t)) ∧ Below w.heap.size w w' :=
  (spaced_any u t w).mono fun e w' ⟨h1, h2⟩ => ⟨h1, by rw [h2]; exact ((Below.refl _ _).alloc (Nat.le_refl _) _).alloc (by simp) _⟩

attribute [local irreducible] wpStill in
set_option maxHeartbeats 3200000 in
theorem show_any (hcan : CanSaid) (l m : List Tok) (k cap : Nat) (w : World) (hg : Gl w) (hl0 : 0 < l.length) (hn : l.length ≤ 1000000) (hin : ∀ i, i < l.length → TokIn w k i (tk l i)) (hk : k < w.heap.size)
    (hkd : ∀ i, i < l.length → (tk l i).kind ≤ 10 ∧ (tk l i).text.size ≤ 65536) (hlen : (shoL 15 l).length ≤ 40000) (hm : rawM (bytesOf (shoL 15 l)) = .ok m) (hml : m.length = l.length) (hmk : ∀ i, i < l.length → (tk m i).kind = (tk l i).kind ∧ (tk m i).text = (tk l i).text) :
    Calls Tryd.prog 17 #[.slice (some ⟨k, 0, none⟩) l.length cap] w fun e w' => e = .returned (.tuple #[.string (bytesOf (shoL 15 l)), .int .i64 0]) ∧ Below w.heap.size w w' := by
  have HG := Lib.hid hg
  have HIN := Lib.hid hin
  have HKD := Lib.hid hkd
  have HLEN := Lib.hid hlen
  have HM := Lib.hid hm
  have HML := Lib.hid hml
  have HMK := Lib.hid hmk
  have HCAN := Lib.hid hcan
  have hbu := Bu.fresh w
  have HBU := Lib.hid hbu
  have hb0 := (Below.refl w.heap.size w).alloc (Nat.le_refl _) (.cells #[.pointer none, .slice none 0 0] 54)
  have HB0 := Lib.hid hb0
  clear hg hin hkd hlen hm hml hmk hcan hbu hb0
  go_enter Tryd.func17, Tryd.ntmps17
  go_wp2_with fail
  go_loopg [11] (l.length + 1) (fun n v wr => ∃ i : Nat, i ≤ l.length ∧ v = .int .i64 i ∧ Hid (n = l.length + 1 - i) ∧ Hid (Bu w.heap.size w.heap.size (shoL 15 (l.take i)) wr) ∧ Hid (Below w.heap.size w wr))
  case atStart => exact ⟨0, by omega, rfl, rfl, HBU.out, HB0.out⟩
  case round =>
    obtain ⟨i, hi, rfl, HN, HB, HBr⟩ := hrel
    by_cases hlt : i < l.length
    · have d1' : decide ((i : Int) < (l.length : Int)) = true := decide_eq_true (by omega)
      have d2' : (i : Int) < (l.length : Int) := by omega
      have HST := Lib.hid (sho_take l i hlt)
      have hwr : w.heap.size ≤ wr.heap.size := HBr.out.size
      have HWR := Lib.hid hwr
      have hcs := congrArg List.length HST.out
      have hle1 := sho_le l (i + 1)
      have hle2 := sho_le l i
      have hlen := HLEN.out
      simp only [List.length_append] at hcs
      have HS1 : Hid ((shoL 15 (l.take i)).length ≤ 900000) := Lib.hid (by omega)
      have HS2 : Hid ((bytesOf (canL (canP i (tk l (i - 1))) (tk l i))).size ≤ 1000000) := Lib.hid (by rw [bytesOf_size]; omega)
      have HKi := Lib.hid (HKD.out i hlt)
      have HC : Hid (∀ W : World, Below w.heap.size w W → Calls Tryd.prog 32 #[.slice (some ⟨k, 0, none⟩) l.length cap, .int .i64 i] W fun e w' => e = .returned (.string (bytesOf (canL (canP i (tk l (i - 1))) (tk l i)))) ∧ Below W.heap.size W w') := Lib.hid (fun W hWw => by
        exact HCAN.out k l.length cap i (tk l i) (tk l (i - 1)) W (Gl.below HG.out hWw HG.out.1) hlt hn ((HIN.out i hlt).below hWw hk) (by have := hWw.size; omega) (fun h => (HIN.out (i - 1) (by omega)).below hWw hk) HKi.out.2)
      clear hcs hle1 hle2 hlen hwr
      by_cases hip : 0 < i
      · have g0 : decide ((0 : Int) < (i : Int)) = true := decide_eq_true (by omega)
        have g0' : decide (0 < i) = true := decide_eq_true hip
        have g1 : (0 : Int) < (i : Int) := by omega
        have w1 : IntKind.i64.wrap ((i : Int) - 1) = ((i - 1 : Nat) : Int) := by rw [show (i : Int) - 1 = ((i - 1 : Nat) : Int) by omega]; exact IntWalk.i64_in _ (by omega)
        have w2 : (0 : Int) ≤ ((i - 1 : Nat) : Int) := by omega
        have w3 : ((i - 1 : Nat) : Int) < (l.length : Int) := by omega
        have w4 : ((i - 1 : Nat) : Int).toNat = i - 1 := by omega
        have i0 : (0 : Int) ≤ (i : Int) := by omega
        have HSP := Lib.hid (sep_spc i (tk l (i - 1)) (tk l i) hip (HKD.out (i - 1) (by omega)).1)
        obtain ⟨t0, t1, t2, t3, t4⟩ := (HIN.out i hlt).below HBr.out hk
        obtain ⟨u0, u1, u2, u3, u4⟩ := (HIN.out (i - 1) (by omega)).below HBr.out hk
        have HSB := Lib.hid (fun W : World => spaced_b (tk l (i - 1)) (tk l i) W)
        generalize htt : tk l i = tt at *
        generalize huu : tk l (i - 1) = uu at *
        obtain ⟨tk0, tt0, tp0, tl0, tc0⟩ := tt
        obtain ⟨uk0, ut0, up0, ul0, uc0⟩ := uu
        simp only at t0 t1 t2 t3 t4 u0 u1 u2 u3 u4 HSB
        by_cases hspc : spcM ⟨uk0, ut0, up0, ul0, uc0⟩ ⟨tk0, tt0, tp0, tl0, tc0⟩ = true
        · have hsep := HSP.out
          rw [if_pos hspc] at hsep
          have HSE := Lib.hid hsep
          have HSB2 : Hid (∀ W : World, Calls Tryd.prog 29 #[.agg #[I uk0, .string ut0, I up0, I ul0, I uc0], .agg #[I tk0, .string tt0, I tp0, I tl0, I tc0]] W fun e w' => e = .returned (.bool true) ∧ Below W.heap.size W w') := Lib.hid (fun W => by have := HSB.out W; rw [hspc] at this; exact this)
          clear hsep hspc HSB
          go_upto_region 5 with fail
          go_still_tail 12, (by kernel_rfl)
          change wpList _ _ _ _ _ wr.drew
          go_wp2_with (go_at_call 29; refine (HSB2.out _).mono ?_; rintro e wa ⟨rfl, hba⟩)
          have HW1 : Hid (Below wr.heap.size wr wa) := Lib.hid (Below.trans (Below.drew (Below.refl _ wr)) hba)
          clear hba
          go_wp2_with (first
            | (go_at_call 30; refine (wByte w.heap.size w.heap.size _ 32 _ (HB.out.below HW1.out) (Nat.le_trans HS1.out (by decide)) (Nat.le_trans HWR.out HW1.out.size)).mono ?_; rintro e wb2 ⟨rfl, hbb, hbw⟩; have HBB := Lib.hid hbb; have HW2 : Hid (Below w.heap.size w wb2) := Lib.hid ((HBr.out.trans (Below.mono HW1.out HWR.out)).trans hbw); clear hbb hbw)
            | (go_at_call 32; refine (HC.out _ HW2.out).mono ?_; rintro e wd ⟨rfl, hbd⟩; have HBB2 := Lib.hid (HBB.out.below hbd); have HW3 : Hid (Below w.heap.size w wd) := Lib.hid (HW2.out.trans (Below.mono hbd HW2.out.size)); clear hbd)
            | (go_at_call 31; refine (wStr w.heap.size w.heap.size _ _ _ HBB2.out (by simp; have := HS1.out; omega) HS2.out HW3.out.size).mono ?_; rintro e we ⟨rfl, hbe, hbw'⟩; have HBB3 := Lib.hid hbe; have HW4 : Hid (Below w.heap.size w we) := Lib.hid (HW3.out.trans hbw'); clear hbe hbw'))
          go_roundg (l.length + 1 - (i + 1))
          case measure => have := HN.out; omega
          case rel =>
            refine ⟨i + 1, by omega, by go_num, rfl, ?_, HW4.out⟩
            have := HBB3.out
            rw [bytesOf_list] at this
            refine Lib.hid ?_
            rw [HST.out, HSE.out]
            simpa using this
        · have hsep := HSP.out
          rw [if_neg hspc] at hsep
          have HSE := Lib.hid hsep
          have hspf := Bool.eq_false_iff.2 hspc
          have HSB2 : Hid (∀ W : World, Calls Tryd.prog 29 #[.agg #[I uk0, .string ut0, I up0, I ul0, I uc0], .agg #[I tk0, .string tt0, I tp0, I tl0, I tc0]] W fun e w' => e = .returned (.bool false) ∧ Below W.heap.size W w') := Lib.hid (fun W => by have := HSB.out W; rw [hspf] at this; exact this)
          clear hsep hspc hspf HSB
          go_upto_region 5 with fail
          go_still_tail 12, (by kernel_rfl)
          change wpList _ _ _ _ _ wr.drew
          go_wp2_with (go_at_call 29; refine (HSB2.out _).mono ?_; rintro e wa ⟨rfl, hba⟩)
          have HW1 : Hid (Below wr.heap.size wr wa) := Lib.hid (Below.trans (Below.drew (Below.refl _ wr)) hba)
          clear hba
          have HBB := Lib.hid (HB.out.below HW1.out)
          have HW2 : Hid (Below w.heap.size w wa) := Lib.hid (HBr.out.trans (Below.mono HW1.out HWR.out))
          go_wp2_with (first
            | (go_at_call 32; refine (HC.out _ HW2.out).mono ?_; rintro e wd ⟨rfl, hbd⟩; have HBB2 := Lib.hid (HBB.out.below hbd); have HW3 : Hid (Below w.heap.size w wd) := Lib.hid (HW2.out.trans (Below.mono hbd HW2.out.size)); clear hbd)
            | (go_at_call 31; refine (wStr w.heap.size w.heap.size _ _ _ HBB2.out (by have := HS1.out; omega) HS2.out HW3.out.size).mono ?_; rintro e we ⟨rfl, hbe, hbw'⟩; have HBB3 := Lib.hid hbe; have HW4 : Hid (Below w.heap.size w we) := Lib.hid (HW3.out.trans hbw'); clear hbe hbw'))
          go_roundg (l.length + 1 - (i + 1))
          case measure => have := HN.out; omega
          case rel =>
            refine ⟨i + 1, by omega, by go_num, rfl, ?_, HW4.out⟩
            have := HBB3.out
            rw [bytesOf_list] at this
            refine Lib.hid ?_
            rw [HST.out, HSE.out]
            simpa using this
      · obtain rfl : i = 0 := by omega
        have HSE := Lib.hid (sep_first (tk l (0 - 1)) (tk l 0))
        have HBB := Lib.hid (HB.out.below (Below.drew (Below.refl _ wr)))
        have HW2 : Hid (Below w.heap.size w wr.drew) := Lib.hid (HBr.out.trans (Below.mono (Below.drew (Below.refl _ wr)) HWR.out))
        go_upto_region 5 with fail
        go_still_tail 12, (by kernel_rfl)
        change wpList _ _ _ _ _ wr.drew
        go_wp2_with (first
          | (go_at_call 32; refine (HC.out _ HW2.out).mono ?_; rintro e wd ⟨rfl, hbd⟩; have HBB2 := Lib.hid (HBB.out.below hbd); have HW3 : Hid (Below w.heap.size w wd) := Lib.hid (HW2.out.trans (Below.mono hbd HW2.out.size)); clear hbd)
          | (go_at_call 31; refine (wStr w.heap.size w.heap.size _ _ _ HBB2.out (by have := HS1.out; omega) HS2.out HW3.out.size).mono ?_; rintro e we ⟨rfl, hbe, hbw'⟩; have HBB3 := Lib.hid hbe; have HW4 : Hid (Below w.heap.size w we) := Lib.hid (HW3.out.trans hbw'); clear hbe hbw'))
        go_roundg (l.length + 1 - (0 + 1))
        case measure => have := HN.out; omega
        case rel =>
          refine ⟨0 + 1, by omega, by go_num, rfl, ?_, HW4.out⟩
          have := HBB3.out
          rw [bytesOf_list] at this
          refine Lib.hid ?_
          rw [HST.out, HSE.out]
          simpa using this
    · obtain rfl : i = l.length := by omega
      have d1' : decide ((l.length : Int) < (l.length : Int)) = false := decide_eq_false (by omega)
      rw [List.take_length] at HB
      have HMLb := HML.out
      have HZ : Hid (∀ W : World, Gl W → Calls Tryd.prog 16 #[.string (bytesOf (shoL 15 l))] W (RawOut W (.ok m))) := Lib.hid (fun W hW => by have := raw_any (bytesOf (shoL 15 l)) W hW; rw [HM.out] at this; exact this)
      have z00 : (((0 : Nat) : Int) != 0) = false := rfl
      go_wp2_with (first
        | (go_at_call 33; refine (bStr w.heap.size w.heap.size _ _ HB.out HBr.out.size).mono ?_; rintro e wa ⟨rfl, hba⟩; have HW1 : Hid (Below w.heap.size w wa) := Lib.hid (HBr.out.trans hba); clear hba)
        | (go_at_call 16; refine (HZ.out _ (Gl.below HG.out HW1.out HG.out.1)).mono ?_; rintro e wb2 ⟨lv, rfl, hown, hbb⟩; obtain ⟨km, capm, rfl, hkm, _, _, hinm⟩ := row_ofb (own_base hown (Nat.zero_le _)) (by omega); rw [HMLb]; have HW2 : Hid (Below w.heap.size w wb2) := Lib.hid (HW1.out.trans (Below.mono hbb HW1.out.size)); have HINM := Lib.hid hinm; clear hown hbb hinm)
        | (go_at_call 34; refine (sameTokens_any km capm k cap l m _ hn HMLb (fun j hj => (HINM.out j (by omega)).below ((Below.refl _ _).alloc (Nat.le_refl _) _) hkm) (fun j hj => (HIN.out j hj).below (HW2.out.alloc HW2.out.size _) hk) (by simp; omega) (by have := HW2.out.size; simp; omega) HMK.out).mono ?_; rintro e wd ⟨rfl, hbd⟩; have HW3 : Hid (Below w.heap.size w wd) := Lib.hid ((HW2.out.alloc HW2.out.size _).trans (Below.mono hbd (by have := HW2.out.size; simp; omega))); clear hbd))
      go_ret2
      exact ⟨rfl, HW3.out⟩
theorem can_said : CanSaid := fun k n cap i t u w hg hi hn ht hk hu hs => canonical_any k n cap i t u w hg hi hn ht hk hu hs
set_option maxHeartbeats 1600000 in
theorem show_nil (lv : Value) (w : World) (hg : Gl w) (hlv : ∃ a c, lv = .slice a 0 c) (hm : rawM (bytesOf []) = .ok []) :
    Calls Tryd.prog 17 #[lv] w fun e w' => e = .returned (.tuple #[.string (bytesOf []), .int .i64 0]) ∧ Below w.heap.size w w' := by
  obtain ⟨a, c, rfl⟩ := hlv
  have HG := Lib.hid hg
  have HBU := Lib.hid (Bu.fresh w)
  have HB0 := Lib.hid ((Below.refl w.heap.size w).alloc (Nat.le_refl _) (.cells #[.pointer none, .slice none 0 0] 54))
  have HZ : Hid (∀ W : World, Gl W → Calls Tryd.prog 16 #[.string (bytesOf [])] W (RawOut W (.ok []))) := Lib.hid (fun W hW => by have := raw_any (bytesOf []) W hW; rw [hm] at this; exact this)
  clear hg hm
  go_enter Tryd.func17, Tryd.ntmps17
  go_wp2_with fail
  go_loopg [11] 1 (fun n v wr => v = .int .i64 0 ∧ Hid (n = 1) ∧ Hid (Bu w.heap.size w.heap.size [] wr) ∧ Hid (Below w.heap.size w wr))
  case atStart => exact ⟨rfl, rfl, HBU.out, HB0.out⟩
  case round =>
    obtain ⟨rfl, HN, HB, HBr⟩ := hrel
    go_wp2_with (first
      | (go_at_call 33; refine (bStr w.heap.size w.heap.size _ _ HB.out HBr.out.size).mono ?_; rintro e wa ⟨rfl, hba⟩; have HW1 : Hid (Below w.heap.size w wa) := Lib.hid (HBr.out.trans hba); clear hba)
      | (go_at_call 16; refine (HZ.out _ (Gl.below HG.out HW1.out HG.out.1)).mono ?_; rintro e wb2 ⟨lv, rfl, hown, hbb⟩; obtain ⟨a2, c2, rfl⟩ := nil_form hown; have HW2 : Hid (Below w.heap.size w wb2) := Lib.hid (HW1.out.trans (Below.mono hbb HW1.out.size)); clear hown hbb)
      | (go_at_call 34; refine (sameTokens_nil _ _ _ ⟨_, _, rfl⟩ ⟨_, _, rfl⟩).mono ?_; rintro e wd ⟨rfl, hbd⟩; have HW3 : Hid (Below w.heap.size w wd) := Lib.hid ((HW2.out.alloc HW2.out.size _).trans (Below.mono hbd (by have := HW2.out.size; simp; omega))); clear hbd))
    go_ret2
    exact ⟨rfl, HW3.out⟩
end Go.Proofs.YtcdidmohgcegmaaDoor
