/- The contract of Layout. -/
import Derived.Test.YtcdidmohgcegmaaDoorLyn
namespace Go.Proofs.YtcdidmohgcegmaaDoor
open Go.RowKit
set_option maxRecDepth 100000

/-- How Layout ends. -/
def LayOut (w : World) (o : Except Flt (List Tok)) (e : Ending) (w' : World) : Prop :=
  match o with
  | .ok l => ∃ lv, e = .returned (.tuple #[lv, .agg #[I 0, I 0]]) ∧ w'.ownsRow 0 34 5 lv l.length (l.flatMap Tok.cells) ∧ Below w.heap.size w w'
  | .error f => e = .returned (.tuple #[.slice none 0 0, fltV f]) ∧ Below w.heap.size w w'

set_option maxHeartbeats 1600000 in
theorem layout_any {w : World} {iv : Value} {l : List Tok} (h : w.ownsRow 0 34 5 iv l.length (l.flatMap Tok.cells)) (hg : Gl w) (hl : l.length ≤ 1000000) (hs : Small l) : Calls Tryd.prog 35 #[iv] w (LayOut w (lrunM l)) := by
  obtain ⟨A, cap, hiv, _⟩ := in_form0 h
  subst hiv
  generalize hm : lrunM l = res
  have HM := Lib.hid hm
  clear hm
  have h1 := hg.1
  have hmf : ∀ (fn : Fn) (first cap : Array Value) (w : World), (Instr.makeFunc fn first cap).run Tryd.prog w = .ok (.func fn first cap) w := fun _ _ _ _ => rfl
  have hb : ((w.alloc (.cells #[.int .i64 0, .int .i64 0] 28)).alloc (.cells #[.slice A l.length cap, .slice none 0 0, .slice none 0 0, .int .i64 0] 74)).heap[w.heap.size + 1]? = some (.cells #[.slice A l.length cap, .slice none 0 0, .slice none 0 0, .int .i64 0] 74 (0, 0)) := by
    have := heap_alloc_new (w.alloc (.cells #[.int .i64 0, .int .i64 0] 28)) (.cells #[.slice A l.length cap, .slice none 0 0, .slice none 0 0, .int .i64 0] 74)
    rw [show (w.alloc (.cells #[.int .i64 0, .int .i64 0] 28)).heap.size = w.heap.size + 1 by simp] at this
    exact this
  have hold : ∀ k, k < w.heap.size → ((w.alloc (.cells #[.int .i64 0, .int .i64 0] 28)).alloc (.cells #[.slice A l.length cap, .slice none 0 0, .slice none 0 0, .int .i64 0] 74)).heap[k]? = w.heap[k]? := fun k hk => (Below.heap_alloc _ _ k (by simp; omega)).trans (Below.heap_alloc w _ k hk)
  have hly : LyX ((w.alloc (.cells #[.int .i64 0, .int .i64 0] 28)).alloc (.cells #[.slice A l.length cap, .slice none 0 0, .slice none 0 0, .int .i64 0] 74)) (w.heap.size + 1) (.slice A l.length cap) l ⟨[], [], 0⟩ (.slice none 0 0) (.slice none 0 0) :=
    ⟨hb, World.ownsRow_nil _ _ _ _, World.ownsRow_nil _ _ _ _, own_same h fun k _ hk => hold k hk, fun k _ => by simp [Value.ownBlock]⟩
  have hap : ∀ p, p < w.heap.size → Apart ((w.alloc (.cells #[.int .i64 0, .int .i64 0] 28)).alloc (.cells #[.slice A l.length cap, .slice none 0 0, .slice none 0 0, .int .i64 0] 74)) (w.heap.size + 1) p := fun p hp => by
    obtain ⟨_, c1, c2, _⟩ := hly.cells
    exact ⟨by simp; omega, by omega, fun v hv => by rw [c1] at hv; cases hv; simp [Value.ownBlock], fun v hv => by rw [c2] at hv; cases hv; simp [Value.ownBlock]⟩
  have hap0 : Apart ((w.alloc (.cells #[.int .i64 0, .int .i64 0] 28)).alloc (.cells #[.slice A l.length cap, .slice none 0 0, .slice none 0 0, .int .i64 0] 74)) (w.heap.size + 1) w.heap.size := by
    obtain ⟨_, c1, c2, _⟩ := hly.cells
    exact ⟨by simp; omega, by omega, fun v hv => by rw [c1] at hv; cases hv; simp [Value.ownBlock], fun v hv => by rw [c2] at hv; cases hv; simp [Value.ownBlock]⟩
  have hblk0 : ((w.alloc (.cells #[.int .i64 0, .int .i64 0] 28)).alloc (.cells #[.slice A l.length cap, .slice none 0 0, .slice none 0 0, .int .i64 0] 74)).heap[w.heap.size]? = some (.cells #[.int .i64 0, .int .i64 0] 28 (0, 0)) := (Below.heap_alloc _ _ _ (by simp)).trans (heap_alloc_new w _)
  have HL := Lib.hid hly
  have HAP := Lib.hid hap
  have HG : Hid (GlA ((w.alloc (.cells #[.int .i64 0, .int .i64 0] 28)).alloc (.cells #[.slice A l.length cap, .slice none 0 0, .slice none 0 0, .int .i64 0] 74)) (w.heap.size + 1)) := Lib.hid ⟨Gl.alloc (Gl.alloc hg _) _, hap 2 (by omega), hap 0 (by omega)⟩
  have HQ := Lib.hid (fun (w2 : World) (hK : KeepA (w.heap.size + 1) ((w.alloc (.cells #[.int .i64 0, .int .i64 0] 28)).alloc (.cells #[.slice A l.length cap, .slice none 0 0, .slice none 0 0, .int .i64 0] 74)) w2) => (hK.block _ hap0).2.trans hblk0)
  have HBL := Lib.hid (fun (w2 : World) (hK : KeepA (w.heap.size + 1) ((w.alloc (.cells #[.int .i64 0, .int .i64 0] 28)).alloc (.cells #[.slice A l.length cap, .slice none 0 0, .slice none 0 0, .int .i64 0] 74)) w2) => (show Below w.heap.size w w2 from ⟨hK.os, hK.tape, hK.output, by have := hK.size; simp at this; omega, fun k hk => (hK.block k (hap k hk)).2.trans (hold k hk)⟩))
  clear hg hb hold hly hap hap0 hblk0 h
  go_enter Tryd.func35, Tryd.ntmps35
  go_wp2_with fail
  refine (caught_lay ⟨_, _, HL.out⟩ HG.out hl hs).mono ?_
  rintro e w2 h
  rw [HM.out] at h
  cases res with
  | error f =>
    obtain ⟨rfl, hK⟩ := h
    have hsz : w.heap.size + 2 ≤ w2.heap.size := by have := hK.size; simpa using this
    have q2 := HQ.out w2 hK
    have r2 : w2.cell? ⟨w.heap.size, 0, none⟩ = some (.int .i64 0) := by simp [cell_of_row w2 _ _ _ _ _ q2]
    have r3 : w2.cell? ⟨w.heap.size, 1, none⟩ = some (.int .i64 0) := by simp [cell_of_row w2 _ _ _ _ _ q2]
    have r2f : w2.frozen? ⟨w.heap.size, 0, none⟩ = false := by simp [World.frozen?, q2]
    have r3f : w2.frozen? ⟨w.heap.size, 1, none⟩ = false := by simp [World.frozen?, q2]
    have HK := Lib.hid hK
    clear hK q2
    unfold fltV
    go_wp2_with fail
    refine bodyPost_ret (v := .tuple #[.slice none 0 0, .agg #[I f.pos, I f.code]]) (by simp [results, Tryd.results35, go_sem, r2, r3]) rfl ⟨rfl, ?_⟩
    exact Below.setCell (Below.setCell (HBL.out w2 HK.out) (by show w.heap.size ≤ w.heap.size; omega) _) (by show w.heap.size ≤ w.heap.size; omega) _
  | ok lo =>
    obtain ⟨lv, rfl, hown, hK⟩ := h
    have hsz : w.heap.size + 2 ≤ w2.heap.size := by have := hK.size; simpa using this
    have q2 := HQ.out w2 hK
    have r2 : w2.cell? ⟨w.heap.size, 0, none⟩ = some (.int .i64 0) := by simp [cell_of_row w2 _ _ _ _ _ q2]
    have r3 : w2.cell? ⟨w.heap.size, 1, none⟩ = some (.int .i64 0) := by simp [cell_of_row w2 _ _ _ _ _ q2]
    have r2f : w2.frozen? ⟨w.heap.size, 0, none⟩ = false := by simp [World.frozen?, q2]
    have r3f : w2.frozen? ⟨w.heap.size, 1, none⟩ = false := by simp [World.frozen?, q2]
    have HK := Lib.hid hK
    have QA := Lib.hid q2
    have HOW := Lib.hid hown
    clear hK q2 hown
    go_wp2_with fail
    refine bodyPost_ret (v := .tuple #[lv, .agg #[I 0, I 0]]) (by simp [results, Tryd.results35, go_sem, r2, r3]) rfl ⟨lv, rfl, ?_, ?_⟩
    · exact own_same HOW.out fun k hk _ => by
        have hka : k ≠ w.heap.size := by
          intro e
          obtain ⟨c', hc'⟩ := own_block HOW.out hk
          rw [e] at hc'
          exact absurd (heap_ty hc' QA.out) (by decide)
        rw [set_far _ _ _ _ _ hka, set_far _ _ _ _ _ hka]
    · exact Below.setCell (Below.setCell (HBL.out w2 HK.out) (by show w.heap.size ≤ w.heap.size; omega) _) (by show w.heap.size ≤ w.heap.size; omega) _
end Go.Proofs.YtcdidmohgcegmaaDoor
