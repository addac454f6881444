/- Contracts of faultOf, the deferred closure, caught, Raw. -/
import Derived.Test.YtcdidmohgcegmaaDoorRea
import Derived.Defers
import Derived.Recover
namespace Go.Proofs.YtcdidmohgcegmaaDoor
open Go.RowKit
set_option maxRecDepth 100000
section
variable {B g : Nat} {s : ByteArray} {r : Rd} {w : World}
theorem assert26 (v : Value) (w : World) : (Instr.typeAssert (.iface 28 v) 20 28 true).run Tryd.prog w = .ok (.tuple #[v, .bool true]) w := by kernel_rfl

def fltO (f : Flt) : Obj := .cells #[I f.pos, I f.code] 28
set_option maxHeartbeats 800000 in
theorem faultOf_any (f : Flt) (w : World) :
    Calls Tryd.prog 39 #[.iface 28 (fltV f)] w fun e w' => e = .returned (fltV f) ∧ w' = (w.alloc (fltO f)).alloc (fltO f) := by
  unfold fltV fltO
  have ha := assert26
  go_enter Tryd.func39, Tryd.ntmps39
  go_wp2
  exact bodyPost_ret (v := .agg #[I f.pos, I f.code]) (by simp [results, Tryd.results39, go_sem]) rfl ⟨rfl, rfl⟩

theorem neq_nil (v : Value) (w : World) : (binOp .neq 20 (.iface 28 v) .nilIface).run Tryd.prog w = .ok (.bool true) w := by kernel_rfl
theorem neq_nil2 (w : World) : (binOp .neq 20 .nilIface .nilIface).run Tryd.prog w = .ok (.bool false) w := by kernel_rfl

set_option maxHeartbeats 1600000 in
theorem catch_panicking (b1 b2 : Nat) (f : Flt) (x y z : Value) (older : List PanicEntry) (w : World) (h1 : w.cell? ⟨b1, 0, none⟩ = some x) (h1f : w.frozen? ⟨b1, 0, none⟩ = false)
    (h2 : w.cell? ⟨b2, 0, none⟩ = some y) (h2f : w.frozen? ⟨b2, 0, none⟩ = false) (h3 : w.cell? ⟨b2, 1, none⟩ = some z) (h3f : w.frozen? ⟨b2, 1, none⟩ = false) (hb1 : b1 < w.heap.size) (hb2 : b2 < w.heap.size) (hne : b1 ≠ b2) :
    CallsD Tryd.prog 38 #[.pointer (some ⟨b1, 0, none⟩), .pointer (some ⟨b2, 0, none⟩)] (.panicking ({ v := .iface 28 (fltV f), recovered := false } :: older)) w fun e u' w' =>
      e = .returned (.tuple #[]) ∧ u' = .panicking ({ v := .iface 28 (fltV f), recovered := true } :: older) ∧
        w' = ((((w.setCell ⟨b1, 0, none⟩ (.slice none 0 0)).setCell ⟨b2, 0, none⟩ (I f.pos)).setCell ⟨b2, 1, none⟩ (I f.code)).alloc (fltO f)).alloc (fltO f) := by
  have hn := neq_nil
  refine callsD_of_wpS Tryd.func38 rfl fun c₀ cs hu => ?_
  apply wpS_seq
  apply wpS_region
  simp [wpOpsS, go_sem, recoverD, hu, Tryd.ntmps38, Exit.thenS]
  refine wpS_of_wp ?_
  change Code.wp _ _ _ { tmps := #[.pointer (some ⟨b1, 0, none⟩), .pointer (some ⟨b2, 0, none⟩), .iface 28 (fltV f), .iface 28 (fltV f), undef, undef, undef, undef], defers := [] } w
  have k1 : ((w.alloc (fltO f)).alloc (fltO f)).cell? ⟨b1, 0, none⟩ = some x := ((World.cell?_of_block (Below.heap_alloc _ (fltO f) b1 (by simp; omega))).trans (World.cell?_of_block (Below.heap_alloc w (fltO f) b1 hb1))).trans h1
  have k2 : ((w.alloc (fltO f)).alloc (fltO f)).cell? ⟨b2, 0, none⟩ = some y := ((World.cell?_of_block (Below.heap_alloc _ (fltO f) b2 (by simp; omega))).trans (World.cell?_of_block (Below.heap_alloc w (fltO f) b2 hb2))).trans h2
  have k3 : ((w.alloc (fltO f)).alloc (fltO f)).cell? ⟨b2, 1, none⟩ = some z := ((World.cell?_of_block (Below.heap_alloc _ (fltO f) b2 (by simp; omega))).trans (World.cell?_of_block (Below.heap_alloc w (fltO f) b2 hb2))).trans h3
  have k1f : ((w.alloc (fltO f)).alloc (fltO f)).frozen? ⟨b1, 0, none⟩ = false := ((World.frozen?_of_block (Below.heap_alloc _ (fltO f) b1 (by simp; omega))).trans (World.frozen?_of_block (Below.heap_alloc w (fltO f) b1 hb1))).trans h1f
  have k2f : ((w.alloc (fltO f)).alloc (fltO f)).frozen? ⟨b2, 0, none⟩ = false := ((World.frozen?_of_block (Below.heap_alloc _ (fltO f) b2 (by simp; omega))).trans (World.frozen?_of_block (Below.heap_alloc w (fltO f) b2 hb2))).trans h2f
  have k3f : ((w.alloc (fltO f)).alloc (fltO f)).frozen? ⟨b2, 1, none⟩ = false := ((World.frozen?_of_block (Below.heap_alloc _ (fltO f) b2 (by simp; omega))).trans (World.frozen?_of_block (Below.heap_alloc w (fltO f) b2 hb2))).trans h3f
  go_wp2_with fail
  refine (faultOf_any f _).mono ?_
  rintro e w' ⟨rfl, rfl⟩
  unfold fltV
  go_wp2_with fail
  simp [bodyPostS, results, Tryd.results38]

theorem catch_idle (b1 b2 : Nat) (w : World) :
    CallsD Tryd.prog 38 #[.pointer (some ⟨b1, 0, none⟩), .pointer (some ⟨b2, 0, none⟩)] .returning w fun e u' w' => e = .returned (.tuple #[]) ∧ u' = .returning ∧ w' = w := by
  have hn := neq_nil2
  refine callsD_of_wpS Tryd.func38 rfl fun c₀ cs hu => ?_
  apply wpS_seq
  apply wpS_region
  simp [wpOpsS, go_sem, recoverD, hu, Tryd.ntmps38, Exit.thenS]
  refine wpS_of_wp ?_
  change Code.wp _ _ _ { tmps := #[.pointer (some ⟨b1, 0, none⟩), .pointer (some ⟨b2, 0, none⟩), .nilIface, .nilIface, undef, undef, undef, undef], defers := [] } w
  go_wp2_with fail
  cases c₀
  simp_all [bodyPostS, results, Tryd.results38]

theorem own_base {w : World} {B C e sz n : Nat} {v : Value} {xs : List Value} (h : w.ownsRow B e sz v n xs) (hC : C ≤ B) : w.ownsRow C e sz v n xs :=
  ⟨h.1, h.2.imp id fun ⟨k, cap, cur, h1, h2, h3⟩ => ⟨k, cap, cur, h1, by omega, h3⟩⟩

theorem cells3 (w2 : World) (a b : Nat) (u v t : Value) {x y z : Value} (hne : a ≠ b) (r1 : w2.cell? ⟨a, 0, none⟩ = some x) (r2 : w2.cell? ⟨b, 0, none⟩ = some y) (r3 : w2.cell? ⟨b, 1, none⟩ = some z) :
    (((w2.setCell ⟨a, 0, none⟩ u).setCell ⟨b, 0, none⟩ v).setCell ⟨b, 1, none⟩ t).cell? ⟨a, 0, none⟩ = some u ∧ (((w2.setCell ⟨a, 0, none⟩ u).setCell ⟨b, 0, none⟩ v).setCell ⟨b, 1, none⟩ t).cell? ⟨b, 0, none⟩ = some v ∧
      (((w2.setCell ⟨a, 0, none⟩ u).setCell ⟨b, 0, none⟩ v).setCell ⟨b, 1, none⟩ t).cell? ⟨b, 1, none⟩ = some t := by
  have hne' : b ≠ a := fun h => hne h.symm
  refine ⟨?_, ?_, ?_⟩ <;> go_simp

/-- How 'caught' ends on the reader's 'read', and Raw: the tokens and no fault, or nothing and the fault. -/
def KOut (w : World) (g : Nat) (o : Except Flt (List Tok)) (e : Ending) (w' : World) : Prop :=
  match o with
  | .ok l => ∃ lv, e = .returned (.tuple #[lv, .agg #[I 0, I 0]]) ∧ w'.ownsRow w.heap.size 34 5 lv l.length (l.flatMap Tok.cells) ∧ Keep w.heap.size g w w'
  | .error f => e = .returned (.tuple #[.slice none 0 0, fltV f]) ∧ Keep w.heap.size g w w'

set_option maxHeartbeats 1600000 in
theorem caught_any (hh : w.heap[g]? = some (.cells #[.string s, I 0, I 0, I 0, I 0, .slice none 0 0, .slice none 0 0] 48 (0, 0))) (hg : Gl w) (hg1 : 2 < g) :
    Calls Tryd.prog 27 #[.func (.func 28) #[.pointer (some ⟨g, 0, none⟩)] #[]] w (KOut w g (rawM s)) := by
  have hlt : g < w.heap.size := by
    rcases Nat.lt_or_ge g w.heap.size with h | h
    · exact h
    · rw [Array.getElem?_eq_none h] at hh; cases hh
  generalize hm : rawM s = res
  have HM := Lib.hid hm
  clear hm
  have hR : RdAt ((w.alloc (.cells #[.slice none 0 0] 25)).alloc (.cells #[.int .i64 0, .int .i64 0] 28)) (w.heap.size + 2) g s ⟨0, 0, 0, 0, [], []⟩ :=
    ⟨.slice none 0 0, .slice none 0 0, ((Below.heap_alloc _ _ g (by simp; omega)).trans (Below.heap_alloc w _ g hlt)).trans hh, by omega, by simp, World.ownsRow_nil _ _ _ _, World.ownsRow_nil _ _ _ _⟩
  have HR := Lib.hid hR
  have HGL := Lib.hid (Gl.alloc (Gl.alloc hg (.cells #[.slice none 0 0] 25)) (.cells #[.int .i64 0, .int .i64 0] 28))
  clear hR hg hh
  have hmf : ∀ (fn : Fn) (first cap : Array Value) (w : World), (Instr.makeFunc fn first cap).run Tryd.prog w = .ok (.func fn first cap) w := fun _ _ _ _ => rfl
  go_enter_defers Tryd.func27, Tryd.ntmps27
  go_wp2_with fail
  refine (read_any HR.out HGL.out hg1).mono ?_
  rintro e w2 h
  rw [HM.out] at h
  have hblk : ∀ {w2 : World}, Keep (w.heap.size + 2) g ((w.alloc (.cells #[.slice none 0 0] 25)).alloc (.cells #[.int .i64 0, .int .i64 0] 28)) w2 →
      w2.heap[w.heap.size]? = some (.cells #[.slice none 0 0] 25 (0, 0)) ∧ w2.heap[w.heap.size + 1]? = some (.cells #[.int .i64 0, .int .i64 0] 28 (0, 0)) := fun {w2} hK =>
    ⟨(hK.block _ (by omega) (by omega)).trans ((Below.heap_alloc _ _ _ (by simp)).trans (heap_alloc_new w _)), (hK.block _ (by omega) (by omega)).trans (by have := heap_alloc_new (w.alloc (.cells #[.slice none 0 0] 25)) (.cells #[.int .i64 0, .int .i64 0] 28); simpa using this)⟩
  cases res with
  | error f =>
    obtain ⟨rfl, hK⟩ := h
    obtain ⟨q1, q2⟩ := hblk hK
    have hsz : w.heap.size + 2 ≤ w2.heap.size := by have := hK.size; simpa using this
    have HK := Lib.hid hK
    have r1 : w2.cell? ⟨w.heap.size, 0, none⟩ = some (.slice none 0 0) := by simp [cell_of_row w2 _ _ _ _ _ q1]
    have r2 : w2.cell? ⟨w.heap.size + 1, 0, none⟩ = some (.int .i64 0) := by simp [cell_of_row w2 _ _ _ _ _ q2]
    have r3 : w2.cell? ⟨w.heap.size + 1, 1, none⟩ = some (.int .i64 0) := by simp [cell_of_row w2 _ _ _ _ _ q2]
    have r1f : w2.frozen? ⟨w.heap.size, 0, none⟩ = false := by simp [World.frozen?, q1]
    have r2f : w2.frozen? ⟨w.heap.size + 1, 0, none⟩ = false := by simp [World.frozen?, q2]
    have r3f : w2.frozen? ⟨w.heap.size + 1, 1, none⟩ = false := by simp [World.frozen?, q2]
    clear hblk hK q1 q2
    go_wp2_with fail
    refine leaves_cons (f := 38) (args := #[.pointer (some ⟨w.heap.size, 0, none⟩), .pointer (some ⟨w.heap.size + 1, 0, none⟩)]) (by simp) (by simp [go_sem]) ?_
    refine (catch_panicking w.heap.size (w.heap.size + 1) f _ _ _ [] w2 r1 r1f r2 r2f r3 r3f (by omega) (by omega) (by omega)).mono ?_
    rintro e u' w'' ⟨rfl, rfl, rfl⟩
    generalize hw3 : (((w2.setCell ⟨w.heap.size, 0, none⟩ (.slice none 0 0)).setCell ⟨w.heap.size + 1, 0, none⟩ (I f.pos)).setCell ⟨w.heap.size + 1, 1, none⟩ (I f.code)) = w3
    have s3 : w3.heap.size = w2.heap.size := by rw [← hw3]; simp [World.setCell]
    obtain ⟨z1, z2, z3⟩ := cells3 w2 w.heap.size (w.heap.size + 1) (.slice none 0 0) (I f.pos) (I f.code) (by omega) r1 r2 r3
    rw [hw3] at z1 z2 z3
    have y1 : ((w3.alloc (fltO f)).alloc (fltO f)).cell? ⟨w.heap.size, 0, none⟩ = some (.slice none 0 0) := (World.cell?_alloc_lt _ _ _ (by simp; omega)).trans ((World.cell?_alloc_lt _ _ _ (by show w.heap.size < _; omega)).trans z1)
    have y2 : ((w3.alloc (fltO f)).alloc (fltO f)).cell? ⟨w.heap.size + 1, 0, none⟩ = some (I f.pos) := (World.cell?_alloc_lt _ _ _ (by simp; omega)).trans ((World.cell?_alloc_lt _ _ _ (by show w.heap.size + 1 < _; omega)).trans z2)
    have y3 : ((w3.alloc (fltO f)).alloc (fltO f)).cell? ⟨w.heap.size + 1, 1, none⟩ = some (I f.code) := (World.cell?_alloc_lt _ _ _ (by simp; omega)).trans ((World.cell?_alloc_lt _ _ _ (by show w.heap.size + 1 < _; omega)).trans z3)
    refine ⟨.tuple #[.slice none 0 0, fltV f], by simp [results, Tryd.results27, go_sem, y1, y2, y3, fltV], rfl, ?_⟩
    have hk3 : Keep w.heap.size g w w3 := by
      rw [← hw3]
      refine Keep.setCell (Keep.setCell (Keep.setCell ?_ (.inr (by show w.heap.size ≤ w.heap.size; omega)) _) (.inr (by show w.heap.size ≤ w.heap.size + 1; omega)) _) (.inr (by show w.heap.size ≤ w.heap.size + 1; omega)) _
      exact (((Keep.refl w.heap.size g w).alloc (Nat.le_refl _) _).alloc (by simp) _).trans (HK.out.mono (by omega))
    exact (hk3.alloc (by omega) _).alloc (by simp; omega) _
  | ok l =>
    obtain ⟨lv, rfl, hown, hK⟩ := h
    obtain ⟨A, cap, hlv⟩ : ∃ A cap, lv = .slice A l.length cap := by
      rcases hown.2 with ⟨rfl, h⟩ | ⟨k, cap, cur, rfl, _⟩
      · exact ⟨none, 0, by rw [h]⟩
      · exact ⟨_, cap, rfl⟩
    subst hlv
    obtain ⟨q1, q2⟩ := hblk hK
    have hsz : w.heap.size + 2 ≤ w2.heap.size := by have := hK.size; simpa using this
    have HK := Lib.hid hK
    have HOW := Lib.hid hown
    have r1 : w2.cell? ⟨w.heap.size, 0, none⟩ = some (.slice none 0 0) := by simp [cell_of_row w2 _ _ _ _ _ q1]
    have r2 : w2.cell? ⟨w.heap.size + 1, 0, none⟩ = some (.int .i64 0) := by simp [cell_of_row w2 _ _ _ _ _ q2]
    have r3 : w2.cell? ⟨w.heap.size + 1, 1, none⟩ = some (.int .i64 0) := by simp [cell_of_row w2 _ _ _ _ _ q2]
    have r1f : w2.frozen? ⟨w.heap.size, 0, none⟩ = false := by simp [World.frozen?, q1]
    have r2f : w2.frozen? ⟨w.heap.size + 1, 0, none⟩ = false := by simp [World.frozen?, q2]
    have r3f : w2.frozen? ⟨w.heap.size + 1, 1, none⟩ = false := by simp [World.frozen?, q2]
    clear hblk hK q1 q2 hown
    go_wp2_with fail
    refine leaves_cons (f := 38) (args := #[.pointer (some ⟨w.heap.size, 0, none⟩), .pointer (some ⟨w.heap.size + 1, 0, none⟩)]) (by simp) (by simp [go_sem]) ?_
    refine (catch_idle w.heap.size (w.heap.size + 1) _).mono ?_
    rintro e u' w'' ⟨rfl, rfl, rfl⟩
    obtain ⟨z1, z2, z3⟩ := cells3 w2 w.heap.size (w.heap.size + 1) (.slice A l.length cap) (.int .i64 0) (.int .i64 0) (by omega) r1 r2 r3
    refine ⟨.tuple #[.slice A l.length cap, .agg #[I 0, I 0]], by simp [results, Tryd.results27, go_sem, z1, z2, z3], .slice A l.length cap, rfl, ?_, ?_⟩
    · exact own_base (ownsRow_setCell_below (ownsRow_setCell_below (ownsRow_setCell_below HOW.out (by show w.heap.size < _; omega) _) (by show w.heap.size + 1 < _; omega) _) (by show w.heap.size + 1 < _; omega) _) (by omega)
    · refine Keep.setCell (Keep.setCell (Keep.setCell ?_ (.inr (by show w.heap.size ≤ w.heap.size; omega)) _) (.inr (by show w.heap.size ≤ w.heap.size + 1; omega)) _) (.inr (by show w.heap.size ≤ w.heap.size + 1; omega)) _
      exact (((Keep.refl w.heap.size g w).alloc (Nat.le_refl _) _).alloc (by simp) _).trans (HK.out.mono (by omega))

/-- How Raw ends: the tokens and no fault, or nothing and the fault; nothing that was there has turned. -/
def RawOut (w : World) (o : Except Flt (List Tok)) (e : Ending) (w' : World) : Prop :=
  match o with
  | .ok l => ∃ lv, e = .returned (.tuple #[lv, .agg #[I 0, I 0]]) ∧ w'.ownsRow w.heap.size 34 5 lv l.length (l.flatMap Tok.cells) ∧ Below w.heap.size w w'
  | .error f => e = .returned (.tuple #[.slice none 0 0, fltV f]) ∧ Below w.heap.size w w'

set_option maxHeartbeats 1600000 in
theorem raw_any (s : ByteArray) (w : World) (hg : Gl w) : Calls Tryd.prog 16 #[.string s] w (RawOut w (rawM s)) := by
  generalize hm : rawM s = res
  have HM := Lib.hid hm
  clear hm
  have h1 := hg.1
  have hmf : ∀ (fn : Fn) (first cap : Array Value) (w : World), (Instr.makeFunc fn first cap).run Tryd.prog w = .ok (.func fn first cap) w := fun _ _ _ _ => rfl
  have HG := Lib.hid (Gl.alloc (Gl.alloc hg (.cells #[.int .i64 0, .int .i64 0] 28)) (.cells #[.string s, .int .i64 0, .int .i64 0, .int .i64 0, .int .i64 0, .slice none 0 0, .slice none 0 0] 48))
  have hb0 := (heap_alloc_new (w.alloc (.cells #[.int .i64 0, .int .i64 0] 28)) (.cells #[.string s, .int .i64 0, .int .i64 0, .int .i64 0, .int .i64 0, .slice none 0 0, .slice none 0 0] 48))
  rw [show (w.alloc (.cells #[.int .i64 0, .int .i64 0] 28)).heap.size = w.heap.size + 1 by simp] at hb0
  have HB := Lib.hid hb0
  clear hg hb0
  go_enter Tryd.func16, Tryd.ntmps16
  go_wp2_with fail
  refine (caught_any (s := s) HB.out HG.out (by omega)).mono ?_
  rintro e w2 h
  rw [HM.out] at h
  cases res with
  | error f =>
    obtain ⟨rfl, hK⟩ := h
    have hsz : w.heap.size + 2 ≤ w2.heap.size := by have := hK.size; simpa using this
    have q2 : w2.heap[w.heap.size]? = some (.cells #[.int .i64 0, .int .i64 0] 28 (0, 0)) := (hK.block _ (by simp; omega) (by omega)).trans ((Below.heap_alloc _ _ _ (by simp)).trans (heap_alloc_new w _))
    have r2 : w2.cell? ⟨w.heap.size, 0, none⟩ = some (.int .i64 0) := by simp [cell_of_row w2 _ _ _ _ _ q2]
    have r3 : w2.cell? ⟨w.heap.size, 1, none⟩ = some (.int .i64 0) := by simp [cell_of_row w2 _ _ _ _ _ q2]
    have r2f : w2.frozen? ⟨w.heap.size, 0, none⟩ = false := by simp [World.frozen?, q2]
    have r3f : w2.frozen? ⟨w.heap.size, 1, none⟩ = false := by simp [World.frozen?, q2]
    have HK := Lib.hid hK
    clear hK q2
    unfold fltV
    go_wp2_with fail
    refine bodyPost_ret (v := .tuple #[.slice none 0 0, .agg #[I f.pos, I f.code]]) (by simp [results, Tryd.results16, go_sem, r2, r3]) rfl ⟨rfl, ?_⟩
    refine Below.setCell (Below.setCell ?_ (by show w.heap.size ≤ w.heap.size; omega) _) (by show w.heap.size ≤ w.heap.size; omega) _
    exact ((((Below.refl w.heap.size w).alloc (Nat.le_refl _) _).alloc (by simp) _).trans (HK.out.toBelow (by simp; omega) (by omega)))
  | ok l =>
    obtain ⟨lv, rfl, hown, hK⟩ := h
    have hsz : w.heap.size + 2 ≤ w2.heap.size := by have := hK.size; simpa using this
    have q2 : w2.heap[w.heap.size]? = some (.cells #[.int .i64 0, .int .i64 0] 28 (0, 0)) := (hK.block _ (by simp; omega) (by omega)).trans ((Below.heap_alloc _ _ _ (by simp)).trans (heap_alloc_new w _))
    have r2 : w2.cell? ⟨w.heap.size, 0, none⟩ = some (.int .i64 0) := by simp [cell_of_row w2 _ _ _ _ _ q2]
    have r3 : w2.cell? ⟨w.heap.size, 1, none⟩ = some (.int .i64 0) := by simp [cell_of_row w2 _ _ _ _ _ q2]
    have r2f : w2.frozen? ⟨w.heap.size, 0, none⟩ = false := by simp [World.frozen?, q2]
    have r3f : w2.frozen? ⟨w.heap.size, 1, none⟩ = false := by simp [World.frozen?, q2]
    have HK := Lib.hid hK
    have HOW := Lib.hid hown
    clear hK q2 hown
    go_wp2_with fail
    refine bodyPost_ret (v := .tuple #[lv, .agg #[I 0, I 0]]) (by simp [results, Tryd.results16, go_sem, r2, r3]) rfl ⟨lv, rfl, ?_, ?_⟩
    · exact own_base (ownsRow_setCell_below (ownsRow_setCell_below HOW.out (by show w.heap.size < _; simp; omega) _) (by show w.heap.size < _; simp; omega) _) (by simp; omega)
    · refine Below.setCell (Below.setCell ?_ (by show w.heap.size ≤ w.heap.size; omega) _) (by show w.heap.size ≤ w.heap.size; omega) _
      exact ((((Below.refl w.heap.size w).alloc (Nat.le_refl _) _).alloc (by simp) _).trans (HK.out.toBelow (by simp; omega) (by omega)))
end
end Go.Proofs.YtcdidmohgcegmaaDoor
