/- The contract of caught on the layouter's run. -/
import Derived.Test.YtcdidmohgcegmaaDoorLym
namespace Go.Proofs.YtcdidmohgcegmaaDoor
open Go.RowKit
set_option maxRecDepth 100000

theorem KeepA.setFar {g : Nat} {a w : World} (h : KeepA g a w) {q : Nat} (hq : a.heap.size ≤ q) (hg : q ≠ g) (i : Nat) (u : Value) : KeepA g a (w.setCell ⟨q, i, none⟩ u) := by
  refine ⟨h.os, h.tape, h.output, by simpa [World.setCell] using h.size, fun p hp => ?_⟩
  have hb := (h.block p hp).2
  have ha := (h.block p hp).1
  have hp1 := hp.1
  have hc : ∀ j, (w.setCell ⟨q, i, none⟩ u).cell? ⟨g, j, none⟩ = w.cell? ⟨g, j, none⟩ := fun j => World.cell?_of_block (set_far w q i u g (Ne.symm hg))
  exact ⟨⟨by simpa [World.setCell] using ha.1, ha.2.1, by rw [hc]; exact ha.2.2.1, by rw [hc]; exact ha.2.2.2⟩, (set_far w q i u p (by omega)).trans hb⟩
/-- How caught ends on the layouter's run. -/
def LKOut (w : World) (g : Nat) (o : Except Flt (List Tok)) (e : Ending) (w' : World) : Prop :=
  match o with
  | .ok l => ∃ lv, e = .returned (.tuple #[lv, .agg #[I 0, I 0]]) ∧ w'.ownsRow 0 34 5 lv l.length (l.flatMap Tok.cells) ∧ KeepA g w w'
  | .error f => e = .returned (.tuple #[.slice none 0 0, fltV f]) ∧ KeepA g w w'

set_option maxHeartbeats 1600000 in
theorem caught_lay {w : World} {g : Nat} {iv : Value} {l : List Tok} (h : LyAt w g iv l ⟨[], [], 0⟩) (hg : GlA w g) (hl : l.length ≤ 1000000) (hs : Small l) :
    Calls Tryd.prog 27 #[.func (.func 47) #[.pointer (some ⟨g, 0, none⟩)] #[]] w (LKOut w g (lrunM l)) := by
  have hlt : g < w.heap.size := h.lt
  generalize hm : lrunM l = res
  have HM := Lib.hid hm
  clear hm
  have hs1 := h.sit (.cells #[.slice none 0 0] 25)
  have hs2 := hs1.sit (.cells #[.int .i64 0, .int .i64 0] 28)
  have hs1' := hs1.alloc (.cells #[.int .i64 0, .int .i64 0] 28)
  rw [show (w.alloc (.cells #[.slice none 0 0] 25)).heap.size = w.heap.size + 1 by simp] at hs2
  have HA := Lib.hid hs1'
  have HB := Lib.hid hs2
  have HGL := Lib.hid (hg.keep hs2.keep)
  clear hs1 hs2 hs1' h hg
  have hmf : ∀ (fn : Fn) (first cap : Array Value) (w : World), (Instr.makeFunc fn first cap).run Tryd.prog w = .ok (.func fn first cap) w := fun _ _ _ _ => rfl
  go_enter_defers Tryd.func27, Tryd.ntmps27
  go_wp2_with fail
  refine (run_any HA.out.ly HGL.out hl hs).mono ?_
  rintro e w2 h
  rw [HM.out] at h
  have hblk : ∀ {w2 : World}, KeepA g ((w.alloc (.cells #[.slice none 0 0] 25)).alloc (.cells #[.int .i64 0, .int .i64 0] 28)) w2 →
      w2.heap[w.heap.size]? = some (.cells #[.slice none 0 0] 25 (0, 0)) ∧ w2.heap[w.heap.size + 1]? = some (.cells #[.int .i64 0, .int .i64 0] 28 (0, 0)) := fun {w2} hK =>
    ⟨(hK.block _ HA.out.apart).2.trans HA.out.box, (hK.block _ HB.out.apart).2.trans HB.out.box⟩
  cases res with
  | error f =>
    obtain ⟨rfl, hK⟩ := h
    obtain ⟨q1, q2⟩ := hblk hK
    have hsz : w.heap.size + 2 ≤ w2.heap.size := by have := hK.size; simpa using this
    have HK := Lib.hid hK
    have r1 : w2.cell? ⟨w.heap.size, 0, none⟩ = some (.slice none 0 0) := by simp [cell_of_row w2 _ _ _ _ _ q1]
    have r2 : w2.cell? ⟨w.heap.size + 1, 0, none⟩ = some (.int .i64 0) := by simp [cell_of_row w2 _ _ _ _ _ q2]
    have r3 : w2.cell? ⟨w.heap.size + 1, 1, none⟩ = some (.int .i64 0) := by simp [cell_of_row w2 _ _ _ _ _ q2]
    have r1f : w2.frozen? ⟨w.heap.size, 0, none⟩ = false := by simp [World.frozen?, q1]
    have r2f : w2.frozen? ⟨w.heap.size + 1, 0, none⟩ = false := by simp [World.frozen?, q2]
    have r3f : w2.frozen? ⟨w.heap.size + 1, 1, none⟩ = false := by simp [World.frozen?, q2]
    clear hblk hK q1 q2
    go_wp2_with fail
    refine leaves_cons (f := 38) (args := #[.pointer (some ⟨w.heap.size, 0, none⟩), .pointer (some ⟨w.heap.size + 1, 0, none⟩)]) (by simp) (by simp [go_sem]) ?_
    refine (catch_panicking w.heap.size (w.heap.size + 1) f _ _ _ [] w2 r1 r1f r2 r2f r3 r3f (by omega) (by omega) (by omega)).mono ?_
    rintro e u' w'' ⟨rfl, rfl, rfl⟩
    generalize hw3 : (((w2.setCell ⟨w.heap.size, 0, none⟩ (.slice none 0 0)).setCell ⟨w.heap.size + 1, 0, none⟩ (I f.pos)).setCell ⟨w.heap.size + 1, 1, none⟩ (I f.code)) = w3
    have s3 : w3.heap.size = w2.heap.size := by rw [← hw3]; simp [World.setCell]
    obtain ⟨z1, z2, z3⟩ := cells3 w2 w.heap.size (w.heap.size + 1) (.slice none 0 0) (I f.pos) (I f.code) (by omega) r1 r2 r3
    rw [hw3] at z1 z2 z3
    have y1 : ((w3.alloc (fltO f)).alloc (fltO f)).cell? ⟨w.heap.size, 0, none⟩ = some (.slice none 0 0) := (World.cell?_alloc_lt _ _ _ (by simp; omega)).trans ((World.cell?_alloc_lt _ _ _ (by show w.heap.size < _; omega)).trans z1)
    have y2 : ((w3.alloc (fltO f)).alloc (fltO f)).cell? ⟨w.heap.size + 1, 0, none⟩ = some (I f.pos) := (World.cell?_alloc_lt _ _ _ (by simp; omega)).trans ((World.cell?_alloc_lt _ _ _ (by show w.heap.size + 1 < _; omega)).trans z2)
    have y3 : ((w3.alloc (fltO f)).alloc (fltO f)).cell? ⟨w.heap.size + 1, 1, none⟩ = some (I f.code) := (World.cell?_alloc_lt _ _ _ (by simp; omega)).trans ((World.cell?_alloc_lt _ _ _ (by show w.heap.size + 1 < _; omega)).trans z3)
    refine ⟨.tuple #[.slice none 0 0, fltV f], by simp [results, Tryd.results27, go_sem, y1, y2, y3, fltV], rfl, ?_⟩
    have hk3 : KeepA g w w3 := by
      rw [← hw3]
      exact KeepA.setFar (KeepA.setFar (KeepA.setFar (HA.out.keep.trans HK.out) (by omega) (by omega) _ _) (by omega) (by omega) _ _) (by omega) (by omega) _ _
    exact (hk3.alloc (by omega) _).alloc (by simp; omega) _
  | ok lo =>
    obtain ⟨lv, rfl, hown, hK⟩ := h
    obtain ⟨A, cap, hlv⟩ : ∃ A cap, lv = .slice A lo.length cap := by
      rcases hown.2 with ⟨rfl, h⟩ | ⟨k, cap, cur, rfl, _⟩
      · exact ⟨none, 0, by rw [h]⟩
      · exact ⟨_, cap, rfl⟩
    subst hlv
    obtain ⟨q1, q2⟩ := hblk hK
    have hsz : w.heap.size + 2 ≤ w2.heap.size := by have := hK.size; simpa using this
    have HK := Lib.hid hK
    have HOW := Lib.hid hown
    have r1 : w2.cell? ⟨w.heap.size, 0, none⟩ = some (.slice none 0 0) := by simp [cell_of_row w2 _ _ _ _ _ q1]
    have r2 : w2.cell? ⟨w.heap.size + 1, 0, none⟩ = some (.int .i64 0) := by simp [cell_of_row w2 _ _ _ _ _ q2]
    have r3 : w2.cell? ⟨w.heap.size + 1, 1, none⟩ = some (.int .i64 0) := by simp [cell_of_row w2 _ _ _ _ _ q2]
    have r1f : w2.frozen? ⟨w.heap.size, 0, none⟩ = false := by simp [World.frozen?, q1]
    have r2f : w2.frozen? ⟨w.heap.size + 1, 0, none⟩ = false := by simp [World.frozen?, q2]
    have r3f : w2.frozen? ⟨w.heap.size + 1, 1, none⟩ = false := by simp [World.frozen?, q2]
    have QA := Lib.hid q1
    have QB := Lib.hid q2
    clear hblk hK q1 q2 hown
    go_wp2_with fail
    refine leaves_cons (f := 38) (args := #[.pointer (some ⟨w.heap.size, 0, none⟩), .pointer (some ⟨w.heap.size + 1, 0, none⟩)]) (by simp) (by simp [go_sem]) ?_
    refine (catch_idle w.heap.size (w.heap.size + 1) _).mono ?_
    rintro e u' w'' ⟨rfl, rfl, rfl⟩
    obtain ⟨z1, z2, z3⟩ := cells3 w2 w.heap.size (w.heap.size + 1) (.slice A lo.length cap) (.int .i64 0) (.int .i64 0) (by omega) r1 r2 r3
    refine ⟨.tuple #[.slice A lo.length cap, .agg #[I 0, I 0]], by simp [results, Tryd.results27, go_sem, z1, z2, z3], .slice A lo.length cap, rfl, ?_, ?_⟩
    · exact own_same HOW.out fun k hk _ => by
        have hka : k ≠ w.heap.size := by
          intro e
          obtain ⟨c', hc'⟩ := own_block HOW.out hk
          rw [e] at hc'
          exact absurd (heap_ty hc' QA.out) (by decide)
        have hkb : k ≠ w.heap.size + 1 := by
          intro e
          obtain ⟨c', hc'⟩ := own_block HOW.out hk
          rw [e] at hc'
          exact absurd (heap_ty hc' QB.out) (by decide)
        rw [set_far _ _ _ _ _ hkb, set_far _ _ _ _ _ hkb, set_far _ _ _ _ _ hka]
    · exact KeepA.setFar (KeepA.setFar (KeepA.setFar (HA.out.keep.trans HK.out) (by omega) (by omega) _ _) (by omega) (by omega) _ _) (by omega) (by omega) _ _
end Go.Proofs.YtcdidmohgcegmaaDoor
