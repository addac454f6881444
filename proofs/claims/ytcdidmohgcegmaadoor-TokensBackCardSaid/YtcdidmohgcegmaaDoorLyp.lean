/- The contract of Scan. -/
import Derived.Test.YtcdidmohgcegmaaDoorLyo
import Derived.Test.YtcdidmohgcegmaaDoorPud
namespace Go.Proofs.YtcdidmohgcegmaaDoor
open Go.RowKit
set_option maxRecDepth 100000

def scanM (s : ByteArray) : Except Flt (List Tok) :=
  match rawM s with
  | .error f => .error f
  | .ok l => lrunM l
theorem raw_small {s : ByteArray} {l : List Tok} (h : rawM s = .ok l) : l.length ≤ 1000000 ∧ Small l := by
  obtain ⟨h1, h2, h3⟩ := rawM_small h
  refine ⟨by omega, fun i => ?_⟩
  unfold tk
  rcases Nat.lt_or_ge i l.length with hi | hi
  · have hm : l.getD i botT ∈ l := by simp [List.getD, List.getElem?_eq_getElem hi]
    obtain ⟨a, b, c⟩ := h1 _ hm
    exact ⟨by omega, by omega, by omega⟩
  · have e : l.getD i botT = botT := by simp [List.getD, List.getElem?_eq_none hi]
    rw [e]
    decide

theorem cells2 (w2 : World) (a : Nat) (u v : Value) {x y : Value} (r1 : w2.cell? ⟨a, 0, none⟩ = some x) (r2 : w2.cell? ⟨a, 1, none⟩ = some y) :
    ((w2.setCell ⟨a, 0, none⟩ u).setCell ⟨a, 1, none⟩ v).cell? ⟨a, 0, none⟩ = some u ∧ ((w2.setCell ⟨a, 0, none⟩ u).setCell ⟨a, 1, none⟩ v).cell? ⟨a, 1, none⟩ = some v := by
  refine ⟨?_, ?_⟩ <;> go_simp
set_option maxHeartbeats 1600000 in
theorem scan_any (s : ByteArray) (w : World) (hg : Gl w) : Calls Tryd.prog 18 #[.string s] w (LayOut w (scanM s)) := by
  generalize hm : scanM s = res
  unfold scanM at hm
  have HM := Lib.hid hm
  clear hm
  have HG := Lib.hid hg
  clear hg
  go_enter Tryd.func18, Tryd.ntmps18
  go_wp2_with fail
  refine (raw_any s _ (Gl.alloc HG.out _)).mono ?_
  rintro e w2 h
  generalize hr : rawM s = ro at h
  have HR := Lib.hid hr
  clear hr
  cases ro with
  | error f =>
    obtain rfl : Except.error f = res := by have := HM.out; rw [HR.out] at this; exact this
    have hcode : ((f.code : Int) != 0) = true := by have := rawM_err HR.out; simp; omega
    obtain ⟨rfl, hb⟩ := h
    have HB : Hid (Below w.heap.size w w2) := Lib.hid (((Below.refl w.heap.size w).alloc (Nat.le_refl _) (.cells #[.int .i64 0, .int .i64 0] 28)).trans (Below.mono hb (by simp)))
    have hsz : w.heap.size + 1 ≤ w2.heap.size := by have := hb.size; simpa using this
    have q2 : w2.heap[w.heap.size]? = some (.cells #[.int .i64 0, .int .i64 0] 28 (0, 0)) := (hb.block _ (by simp)).trans (heap_alloc_new w _)
    have r2 : w2.cell? ⟨w.heap.size, 0, none⟩ = some (.int .i64 0) := by simp [cell_of_row w2 _ _ _ _ _ q2]
    have r3 : w2.cell? ⟨w.heap.size, 1, none⟩ = some (.int .i64 0) := by simp [cell_of_row w2 _ _ _ _ _ q2]
    have r2f : w2.frozen? ⟨w.heap.size, 0, none⟩ = false := by simp [World.frozen?, q2]
    have r3f : w2.frozen? ⟨w.heap.size, 1, none⟩ = false := by simp [World.frozen?, q2]
    have hlt2 : w.heap.size < w2.heap.size := by omega
    clear hb q2
    unfold fltV
    go_wp2_with fail
    go_region
    go_wp2_with fail
    obtain ⟨z1, z2⟩ := cells2 w2 w.heap.size (I f.pos) (I f.code) r2 r3
    have y1 : (((w2.setCell ⟨w.heap.size, 0, none⟩ (I f.pos)).setCell ⟨w.heap.size, 1, none⟩ (I f.code)).alloc (.cells #[I f.pos, I f.code] 28)).cell? ⟨w.heap.size, 0, none⟩ = some (I f.pos) := (World.cell?_alloc_lt _ _ _ (by simp [World.setCell]; omega)).trans z1
    have y2 : (((w2.setCell ⟨w.heap.size, 0, none⟩ (I f.pos)).setCell ⟨w.heap.size, 1, none⟩ (I f.code)).alloc (.cells #[I f.pos, I f.code] 28)).cell? ⟨w.heap.size, 1, none⟩ = some (I f.code) := (World.cell?_alloc_lt _ _ _ (by simp [World.setCell]; omega)).trans z2
    refine bodyPost_ret (v := .tuple #[.slice none 0 0, .agg #[I f.pos, I f.code]]) (by simp [results, Tryd.results18, go_sem, y1, y2]) rfl ⟨rfl, ?_⟩
    exact ((Below.setCell (Below.setCell HB.out (by show w.heap.size ≤ w.heap.size; omega) _) (by show w.heap.size ≤ w.heap.size; omega) _).alloc (by simp [World.setCell]; omega) _).drew
  | ok l =>
    obtain ⟨lv, rfl, hown, hb⟩ := h
    have HB : Hid (Below w.heap.size w w2) := Lib.hid (((Below.refl w.heap.size w).alloc (Nat.le_refl _) (.cells #[.int .i64 0, .int .i64 0] 28)).trans (Below.mono hb (by simp)))
    have hsz : w.heap.size + 1 ≤ w2.heap.size := by have := hb.size; simpa using this
    have hlt2 : w.heap.size < w2.heap.size := by omega
    have q2 : w2.heap[w.heap.size]? = some (.cells #[.int .i64 0, .int .i64 0] 28 (0, 0)) := (hb.block _ (by simp)).trans (heap_alloc_new w _)
    have HQ := Lib.hid q2
    have HG2 : Hid (Gl w2) := Lib.hid (Gl.below (Gl.alloc HG.out (.cells #[.int .i64 0, .int .i64 0] 28)) hb (by have := HG.out.1; simp; omega))
    have HO := Lib.hid (own_base hown (Nat.zero_le _))
    obtain ⟨hl1, hl2⟩ := raw_small HR.out
    have HM2 : Hid (lrunM l = res) := Lib.hid (by have := HM.out; rw [HR.out] at this; exact this)
    clear hb q2 hown HM
    have z00 : (((0 : Nat) : Int) != 0) = false := rfl
    go_wp2_with fail
    refine (layout_any (l := l) (own_same HO.out fun k _ hk => Below.heap_alloc w2 _ k hk) (Gl.alloc HG2.out _) hl1 hl2).mono ?_
    rintro e w3 h3
    rw [HM2.out] at h3
    have hq3 : ∀ {w3 : World}, Below (w2.alloc (.cells #[.int .i64 0, .int .i64 0] 28)).heap.size (w2.alloc (.cells #[.int .i64 0, .int .i64 0] 28)) w3 → w3.heap[w.heap.size]? = some (.cells #[.int .i64 0, .int .i64 0] 28 (0, 0)) ∧ Below w.heap.size w w3 := fun {w3} hb =>
      ⟨(hb.block _ (by simp; omega)).trans ((Below.heap_alloc w2 _ _ hlt2).trans HQ.out), (HB.out.alloc (by omega) _).trans (Below.mono hb (by simp; omega))⟩
    cases res with
    | error f =>
      obtain ⟨rfl, hb3⟩ := h3
      obtain ⟨q3, hB3⟩ := hq3 hb3
      have r2 : w3.cell? ⟨w.heap.size, 0, none⟩ = some (.int .i64 0) := by simp [cell_of_row w3 _ _ _ _ _ q3]
      have r3 : w3.cell? ⟨w.heap.size, 1, none⟩ = some (.int .i64 0) := by simp [cell_of_row w3 _ _ _ _ _ q3]
      have r2f : w3.frozen? ⟨w.heap.size, 0, none⟩ = false := by simp [World.frozen?, q3]
      have r3f : w3.frozen? ⟨w.heap.size, 1, none⟩ = false := by simp [World.frozen?, q3]
      have HB3 := Lib.hid hB3
      clear hb3 hB3 q3 hq3
      unfold fltV
      go_wp2_with fail
      obtain ⟨z1, z2⟩ := cells2 w3 w.heap.size (I f.pos) (I f.code) r2 r3
      refine bodyPost_ret (v := .tuple #[.slice none 0 0, .agg #[I f.pos, I f.code]]) (by simp [results, Tryd.results18, go_sem, z1, z2]) rfl ⟨rfl, ?_⟩
      exact Below.setCell (Below.setCell HB3.out (by show w.heap.size ≤ w.heap.size; omega) _) (by show w.heap.size ≤ w.heap.size; omega) _
    | ok lo =>
      obtain ⟨lv2, rfl, hown3, hb3⟩ := h3
      obtain ⟨q3, hB3⟩ := hq3 hb3
      have r2 : w3.cell? ⟨w.heap.size, 0, none⟩ = some (.int .i64 0) := by simp [cell_of_row w3 _ _ _ _ _ q3]
      have r3 : w3.cell? ⟨w.heap.size, 1, none⟩ = some (.int .i64 0) := by simp [cell_of_row w3 _ _ _ _ _ q3]
      have r2f : w3.frozen? ⟨w.heap.size, 0, none⟩ = false := by simp [World.frozen?, q3]
      have r3f : w3.frozen? ⟨w.heap.size, 1, none⟩ = false := by simp [World.frozen?, q3]
      have HB3 := Lib.hid hB3
      have HQ3 := Lib.hid q3
      have HO3 := Lib.hid hown3
      clear hb3 hB3 q3 hq3 hown3
      go_wp2_with fail
      obtain ⟨z1, z2⟩ := cells2 w3 w.heap.size (.int .i64 0) (.int .i64 0) r2 r3
      refine bodyPost_ret (v := .tuple #[lv2, .agg #[I 0, I 0]]) (by simp [results, Tryd.results18, go_sem, z1, z2]) rfl ⟨lv2, rfl, ?_, ?_⟩
      · exact own_same HO3.out fun k hk _ => by
          have hka : k ≠ w.heap.size := by
            intro e
            obtain ⟨c', hc'⟩ := own_block HO3.out hk
            rw [e] at hc'
            exact absurd (heap_ty hc' HQ3.out) (by decide)
          rw [set_far _ _ _ _ _ hka, set_far _ _ _ _ _ hka]
      · exact Below.setCell (Below.setCell HB3.out (by show w.heap.size ≤ w.heap.size; omega) _) (by show w.heap.size ≤ w.heap.size; omega) _
end Go.Proofs.YtcdidmohgcegmaaDoor
