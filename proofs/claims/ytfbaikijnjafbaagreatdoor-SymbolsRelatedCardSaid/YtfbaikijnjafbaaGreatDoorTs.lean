/- The contract of Types: it ends, with yes or no; it turns nothing but the number that it counts down. -/
import Derived.Test.YtfbaikijnjafbaaGreatDoorKp
namespace Go.Proofs.YtfbaikijnjafbaaGreatDoor
set_option linter.unusedSimpArgs false
set_option linter.unusedVariables false
open Go.RowKit
set_option maxRecDepth 100000

section
variable {g : Nat} {a w : World} {m : Int}
theorem Kp.refl (hc : w.cell? ⟨g, 0, none⟩ = some (I m)) (hf : w.frozen? ⟨g, 0, none⟩ = false) : Kp g w w m := ⟨rfl, rfl, rfl, Nat.le_refl _, fun _ _ _ => rfl, hc, hf⟩
theorem Kp.lt (h : Kp g a w m) : g < w.heap.size := (cell_spot h.cell).2
theorem Kp.alloc (h : Kp g a w m) (o : Obj) : Kp g a (w.alloc o) m := by
  have hg := h.lt
  refine ⟨h.os, h.tape, h.output, by have := h.size; simp; omega, fun k hk hn => ?_, ?_, ?_⟩
  · rw [Below.heap_alloc _ _ _ (Nat.lt_of_lt_of_le hk h.size)]; exact h.block k hk hn
  · rw [World.cell?_alloc_lt _ _ _ hg]; exact h.cell
  · rw [World.frozen?_alloc_old _ _ _ (Nat.ne_of_lt hg)]; exact h.frozen
theorem Kp.set (h : Kp g a w m) (n : Int) : Kp g a (w.setCell ⟨g, 0, none⟩ (I n)) n := by
  refine ⟨h.os, h.tape, h.output, by have := h.size; simp [World.setCell]; exact this, fun k hk hn => ?_, ?_, ?_⟩
  · rw [Below.heap_setCell _ _ _ _ hn]; exact h.block k hk hn
  · exact World.cell?_setCell_same _ _ _ (by rw [h.cell])
  · rw [World.frozen?_setCell]; exact h.frozen
theorem Kp.drewN (h : Kp g a w m) (n : Nat) : Kp g a (w.drewN n) m := ⟨h.os, h.tape, h.output, h.size, h.block, h.cell, h.frozen⟩
theorem TyL.kp {T : Ty} (h : TyL (okg g a) a T) (k : Kp g a w m) : TyL (okg g w) w T := (h.same fun i hi => k.block i hi.1 hi.2).imp fun _ hi => ⟨Nat.lt_of_lt_of_le hi.1 k.size, hi.2⟩
theorem TysL.kp {s : Sl Ty} (h : TysL (okg g a) a s) (k : Kp g a w m) : TysL (okg g w) w s := (h.same fun i hi => k.block i hi.1 hi.2).imp fun _ hi => ⟨Nat.lt_of_lt_of_le hi.1 k.size, hi.2⟩
theorem TreL.kp {T : Tre} (h : TreL (okg g a) a T) (k : Kp g a w m) : TreL (okg g w) w T := (h.same fun i hi => k.block i hi.1 hi.2).imp fun _ hi => ⟨Nat.lt_of_lt_of_le hi.1 k.size, hi.2⟩
theorem TresL.kp {s : Sl Tre} (h : TresL (okg g a) a s) (k : Kp g a w m) : TresL (okg g w) w s := (h.same fun i hi => k.block i hi.1 hi.2).imp fun _ hi => ⟨Nat.lt_of_lt_of_le hi.1 k.size, hi.2⟩
end

theorem TyL.argsL {ok : Nat → Prop} {w : World} {T : Ty} (h : TyL ok w T) : TysL ok w T.args := by cases h with | mk _ ha hk => exact ⟨ha, hk⟩

/-- It ends, with this answer; nothing has turned but the number. -/
def Ans (g : Nat) (w : World) (r : Bool × Int) (e : Ending) (w' : World) : Prop := e = .returned (.bool r.1) ∧ Kp g w w' r.2
theorem Ans.mk {g : Nat} {w w' : World} {b : Bool} {n : Int} (h : Kp g w w' n) : Ans g w (b, n) (.returned (.bool b)) w' := ⟨rfl, h⟩

def cbTy (rec : List Ty → Int → Bool × Int) (T : Ty) (n : Int) : Bool × Int :=
  if wrap64 (n - 1) < 0 ∨ 100 < T.nm.size then (true, wrap64 (n - 1)) else (!(rec T.args.l (wrap64 (n - 1))).1, (rec T.args.l (wrap64 (n - 1))).2)
def tysM : Nat → List Ty → Int → Bool × Int
  | 0, _, n => (false, n)
  | f + 1, l, n => (!(anyM (cbTy (tysM f)) l n).1, (anyM (cbTy (tysM f)) l n).2)

/-- What Types$1 answers for one type, if Types ends one level deeper. -/
theorem cb59_any (g : Nat) (T : Ty) (n1 n0 : Nat) (deep : Nat) (w : World) (n : Int) (rec : List Ty → Int → Bool × Int) (h1 : w.cell? ⟨n1, 0, none⟩ = some (.pointer (some ⟨g, 0, none⟩))) (h0 : w.cell? ⟨n0, 0, none⟩ = some (I deep)) (hn1 : n1 ≠ g) (hn0 : n0 ≠ g) (hd : deep ≤ 70)
    (hT : TyL (okg g w) w T) (hc : w.cell? ⟨g, 0, none⟩ = some (I n)) (hf : w.frozen? ⟨g, 0, none⟩ = false)
    (ih : ∀ (w2 : World) (s : Sl Ty) (m : Int), TysL (okg g w2) w2 s → w2.cell? ⟨g, 0, none⟩ = some (I m) → w2.frozen? ⟨g, 0, none⟩ = false →
      Calls Tryz.prog 25 #[s.v, I ((deep : Int) + 1), .pointer (some ⟨g, 0, none⟩)] w2 (Ans g w2 (rec s.l m))) :
    Calls Tryz.prog 55 #[.agg T.cells.toArray, .pointer (some ⟨n1, 0, none⟩), .pointer (some ⟨n0, 0, none⟩)] w (Ans g w (cbTy rec T n)) := by
  have HK := Lib.hid (Kp.refl hc hf)
  have HT := Lib.hid hT.argsL
  have IH := Lib.hid ih
  clear hT ih
  have hlt0 := (cell_spot h0).2
  have hlt1 := (cell_spot h1).2
  have hltg := (cell_spot hc).2
  dsimp only at hlt0 hlt1 hltg
  generalize hres : cbTy rec T n = res
  have HR := Lib.hid hres
  clear hres
  by_cases c1 : wrap64 (n - 1) < 0
  · obtain rfl : (true, wrap64 (n - 1)) = res := by have := HR.out; rw [cbTy, if_pos (.inl c1)] at this; exact this
    have d1 : decide (wrap64 (n - 1) < 0) = true := decide_eq_true c1
    clear c1 HR
    unfold Ty.cells
    go_enter Tryz.func55, Tryz.ntmps55
    go_wp2_with fail
    go_ret
    exact Ans.mk ((HK.out.set _).alloc _)
  · have d1 : decide (wrap64 (n - 1) < 0) = false := decide_eq_false c1
    by_cases c2 : 100 < T.nm.size
    · obtain rfl : (true, wrap64 (n - 1)) = res := by have := HR.out; rw [cbTy, if_pos (.inr c2)] at this; exact this
      have d2 : decide ((100 : Int) < (T.nm.size : Int)) = true := decide_eq_true (by omega)
      clear c1 c2 HR
      unfold Ty.cells
      go_enter Tryz.func55, Tryz.ntmps55
      go_wp2_with fail
      go_ret
      exact Ans.mk ((HK.out.set _).alloc _)
    · have HR2 := Lib.hid (show (!(rec T.args.l (wrap64 (n - 1))).1, (rec T.args.l (wrap64 (n - 1))).2) = res by have := HR.out; rw [cbTy, if_neg (fun h => h.elim c1 c2)] at this; exact this)
      have d2 : decide ((100 : Int) < (T.nm.size : Int)) = false := decide_eq_false (by omega)
      clear c1 c2 HR
      unfold Ty.cells
      go_enter Tryz.func55, Tryz.ntmps55
      go_wp2_with (go_at_call 25; refine (IH.out _ _ _ (HT.out.kp ((HK.out.set _).alloc _)) ((HK.out.set _).alloc _).cell ((HK.out.set _).alloc _).frozen).mono ?_; rintro e w' ⟨rfl, hk⟩)
      go_ret
      have h := HR2.out
      subst h
      exact Ans.mk (((HK.out.set _).alloc _).trans hk)

theorem two_boxes (w : World) (v1 v2 : Value) (t1 t2 : TypeId) :
    ((w.alloc (.cells #[v1] t1)).alloc (.cells #[v2] t2)).cell? ⟨w.heap.size, 0, none⟩ = some v1 ∧ ((w.alloc (.cells #[v1] t1)).alloc (.cells #[v2] t2)).cell? ⟨w.heap.size + 1, 0, none⟩ = some v2 := by
  refine ⟨?_, ?_⟩
  · rw [World.cell?_alloc2_first]; rfl
  · rw [World.cell?_alloc_at _ _ _ _ (by simp)]; rfl
theorem Kp.cellAt {g : Nat} {a w : World} {m : Int} (h : Kp g a w m) {b : Nat} (hb : b < a.heap.size) (hg : b ≠ g) (o : Nat) : w.cell? ⟨b, o, none⟩ = a.cell? ⟨b, o, none⟩ := World.cell?_of_block (w := a) (h.block b hb hg)

theorem types_any : ∀ (f : Nat) (g : Nat) (s : Sl Ty) (deep : Nat) (w : World) (n : Int), 71 = deep + f → TysL (okg g w) w s → w.cell? ⟨g, 0, none⟩ = some (I n) → w.frozen? ⟨g, 0, none⟩ = false →
    Calls Tryz.prog 25 #[s.v, I (deep : Int), .pointer (some ⟨g, 0, none⟩)] w (Ans g w (tysM f s.l n)) := by
  intro f
  induction f with
  | zero =>
    intro g s deep w n hfu hs hc hf
    have HK := Lib.hid (Kp.refl hc hf)
    have d1 : decide ((deep : Int) ≤ 70) = false := decide_eq_false (by omega)
    have hltg := HK.out.lt
    clear hs
    unfold tysM
    go_enter Tryz.func25, Tryz.ntmps25
    go_wp2_with fail
    go_ret
    exact Ans.mk ((HK.out.alloc _).alloc _)
  | succ f ih =>
    intro g s deep w n hfu hs hc hf
    have HK := Lib.hid (Kp.refl hc hf)
    have HS := Lib.hid hs
    have IH := Lib.hid ih
    clear hs ih
    have hltg := HK.out.lt
    have d1 : decide ((deep : Int) ≤ 70) = true := decide_eq_true (by omega)
    have hb := two_boxes w (I deep) (.pointer (some ⟨g, 0, none⟩)) 3 56
    have HW := Lib.hid ((HK.out.alloc (.cells #[I deep] 3)).alloc (.cells #[.pointer (some ⟨g, 0, none⟩)] 56))
    have HC := Lib.hid (show ∀ (w1 : World) (T : Ty) (m : Int), Kp g ((w.alloc (.cells #[I deep] 3)).alloc (.cells #[.pointer (some ⟨g, 0, none⟩)] 56)) w1 m → TyL (okg g w1) w1 T →
        Calls Tryz.prog 55 (#[.agg T.cells.toArray] ++ #[.pointer (some ⟨w.heap.size + 1, 0, none⟩), .pointer (some ⟨w.heap.size, 0, none⟩)]) w1 (Ans g w1 (cbTy (tysM f) T m)) from fun w1 T m hk hT =>
      cb59_any g T (w.heap.size + 1) w.heap.size deep w1 m (tysM f) ((hk.cellAt (by simp) (by omega) 0).trans hb.2) ((hk.cellAt (by simp; omega) (by omega) 0).trans hb.1) (by omega) (by omega) (by omega) hT hk.cell hk.frozen
        (fun w2 s m hs hc hf => IH.out g s (deep + 1) w2 m (by omega) hs hc hf))
    clear hb
    have HC2 := Lib.hid (con58_any g s _ _ _ _ (HS.out.kp HW.out) HW.out.cell HW.out.frozen HC.out)
    unfold tysM
    generalize anyM (cbTy (tysM f)) s.l n = res at *
    go_enter Tryz.func25, Tryz.ntmps25
    go_wp2_with (go_at_call 54; refine HC2.out.mono ?_; rintro e w' ⟨rfl, hk⟩)
    go_ret
    exact Ans.mk (HW.out.trans hk)
end Go.Proofs.YtfbaikijnjafbaaGreatDoor
