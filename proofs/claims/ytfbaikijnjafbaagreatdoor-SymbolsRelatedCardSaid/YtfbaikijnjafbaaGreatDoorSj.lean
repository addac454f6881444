/- Rules 3 and 4 of Check: nesting, the parents of a class. Conditions: the tables at T. -/
import Derived.Test.YtfbaikijnjafbaaGreatDoorSi
namespace Go.Proofs.YtfbaikijnjafbaaGreatDoor
set_option linter.unusedSimpArgs false
set_option linter.unusedVariables false
open Go.RowKit
set_option maxRecDepth 100000

theorem nesting_any (P : Prg) (T : Nat) (i : Nat) (w : World) (h : TL w T P) : Calls Tryz.prog 62 #[ptr T, I i] w (Bof w (I (if insideM P.cls.l i i then 7 else 0))) := by
  obtain ⟨c0, c1, c2, c3, c4, c5⟩ := h.cells
  have HI := Lib.hid (inside15_any P i i w h.prg (fun k hk => Nat.lt_trans hk h.lt))
  rw [prg_agg] at HI
  unfold Bof at HI ⊢
  clear h
  cases e : insideM P.cls.l i i with
  | false =>
    rw [if_neg (by simp)]
    go_enter Tryz.func62, Tryz.ntmps62
    go_wp2_with (first | (go_at_call 19; refine HI.out.mono ?_; rintro e w2 ⟨rfl, hb⟩; dsimp only; rw [e]))
    go_ret
    exact ⟨rfl, hb⟩
  | true =>
    rw [if_pos rfl]
    go_enter Tryz.func62, Tryz.ntmps62
    go_wp2_with (first | (go_at_call 19; refine HI.out.mono ?_; rintro e w2 ⟨rfl, hb⟩; dsimp only; rw [e]))
    go_ret
    exact ⟨rfl, hb⟩

theorem parent1_any (y : Ty) (X : Nat) (s : Int) (w : World) (hx : w.cell? ⟨X, 1, none⟩ = some (I s)) (hX : X < w.heap.size) : Calls Tryz.prog 129 #[.agg y.cells.toArray, ptr X] w (Bof w (.bool (isOfB y s))) := by
  have hB : Below w.heap.size w (w.alloc (.cells y.cells.toArray 60)) := (Below.refl w.heap.size w).alloc (Nat.le_refl _) _
  have HX := Lib.hid ((hB.cell (p := ⟨X, 1, none⟩) hX).trans hx)
  have HO := Lib.hid (isOf_any y s (w.alloc (.cells y.cells.toArray 60)))
  have HB := Lib.hid hB
  unfold Bof at HO ⊢
  clear hB hx
  obtain ⟨k, s0, nm, n, args⟩ := y
  change Hid (Calls Tryz.prog 42 #[.agg #[I k, I s0, .string nm, I n, .slice args.a args.l.length args.cap], I s] (w.alloc (.cells #[I k, I s0, .string nm, I n, .slice args.a args.l.length args.cap] 60)) _) at HO
  change Hid (World.cell? (w.alloc (.cells #[I k, I s0, .string nm, I n, .slice args.a args.l.length args.cap] 60)) _ = _) at HX
  change Hid (Below w.heap.size w (w.alloc (.cells #[I k, I s0, .string nm, I n, .slice args.a args.l.length args.cap] 60))) at HB
  have hx := HX.out
  show Calls Tryz.prog 129 #[.agg #[I k, I s0, .string nm, I n, .slice args.a args.l.length args.cap], ptr X] w _
  have hne : X ≠ w.heap.size := by omega
  go_enter Tryz.func129, Tryz.ntmps129
  go_wp2_with (first | (go_at_call 42; refine HO.out.mono ?_; rintro e w2 ⟨rfl, hb⟩; dsimp only))
  go_ret
  exact ⟨rfl, HB.out.trans (hb.mono (by simp))⟩

theorem tys_cells {w : World} {b o : Nat} {T : Ty} (h : CellsIn w b o T.cells) : w.cell? ⟨b, o, none⟩ = some (I T.k) ∧ w.cell? ⟨b, o + 1, none⟩ = some (I T.s) ∧ w.cell? ⟨b, o + 2, none⟩ = some (.string T.nm) ∧ w.cell? ⟨b, o + 3, none⟩ = some (I T.n) ∧ w.cell? ⟨b, o + 4, none⟩ = some (.slice T.args.a T.args.l.length T.args.cap) :=
  ⟨h 0 (by simp [Ty.cells]), h 1 (by simp [Ty.cells]), h 2 (by simp [Ty.cells]), h 3 (by simp [Ty.cells]), h 4 (by simp [Ty.cells])⟩
set_option maxHeartbeats 800000 in
/-- slices.IndexFunc with parent's closure. -/
theorem idxP_any {ok : Nat → Prop} (a : Option Addr) (cap : Nat) (l : List Ty) (X : Nat) (s : Int) (w : World) (hs : SlAt ok w 5 64 Ty.cells ⟨a, cap, l⟩) (hok : ∀ k, ok k → k < w.heap.size) (hx : w.cell? ⟨X, 1, none⟩ = some (I s)) (hX : X < w.heap.size) :
    Calls Tryz.prog 91 #[.slice a l.length cap, .func (.func 129) #[] #[ptr X]] w fun e w' => ∃ i, e = .returned (I i) ∧ decide (0 ≤ i) = l.any (fun y => isOfB y s) ∧ Below w.heap.size w w' := by
  have hl : l.length ≤ 140737488351232 := by
    have h1 := hs.1; have h2 := hs.2.1
    dsimp only at h1 h2
    omega
  generalize hres : l.any (fun y => isOfB y s) = res
  have HS := Lib.hid hs
  have HL := Lib.hid hl
  have HO := Lib.hid hok
  have HR := Lib.hid hres
  have HX := Lib.hid hx
  have HC : Hid (∀ W (y : Ty), Below w.heap.size w W → Calls Tryz.prog 129 #[.agg y.cells.toArray, ptr X] W (Bof W (.bool (isOfB y s)))) := Lib.hid fun W y hW => parent1_any y X s W ((hW.cell (p := ⟨X, 1, none⟩) hX).trans hx) (Nat.lt_of_lt_of_le hX hW.size)
  clear hs hl hok hres hx
  go_enter Tryz.func91, Tryz.ntmps91
  go_wp2_with fail
  go_loopg [8] (l.length + 1) (fun n v wr => ∃ i : Nat, i ≤ l.length ∧ v = .int .i64 i ∧ Hid (n = l.length + 1 - i) ∧ Hid (Below w.heap.size w wr) ∧ Hid ((l.drop i).any (fun y => isOfB y s) = res))
  case atStart => exact ⟨0, by omega, rfl, rfl, Below.refl _ _, HR.out⟩
  case round =>
    obtain ⟨i, hi, rfl, HN, HB, HD⟩ := hrel
    by_cases hlt : i < l.length
    · have d2 : ((i : Int) < (l.length : Int)) := by omega
      obtain ⟨b, o, ha, hok, hcs⟩ := sl_at HS.out (by show 0 < l.length; omega)
      dsimp only at ha
      subst ha
      have ht := tys_cells ((hcs i hlt).same (HB.out.block b (HO.out b hok)))
      have HD2 : Hid ((isOfB l[i] s || (l.drop (i + 1)).any (fun y => isOfB y s)) = res) := by have := HD.out; rw [List.drop_eq_getElem_cons hlt, List.any_cons] at this; exact this
      have HCT := Lib.hid (HC.out wr l[i] HB.out)
      unfold Bof at HCT
      clear hcs hok HD
      dsimp only at ht
      generalize l[i] = y at *
      obtain ⟨k, s0, nm, n, args⟩ := y
      obtain ⟨t0, t1, t2, t3, t4⟩ := ht
      cases e : isOfB (.mk k s0 nm n args) s with
      | false =>
        have HD3 : Hid ((l.drop (i + 1)).any (fun y => isOfB y s) = res) := by have := HD2.out; rw [e, Bool.false_or] at this; exact this
        go_wp2_with (go_at_call 129; refine HCT.out.mono ?_; rintro e w' ⟨rfl, hk⟩; dsimp only; rw [e])
        have := HL.out
        go_roundg (l.length + 1 - (i + 1))
        case measure => have := HN.out; omega
        case rel => exact ⟨i + 1, by omega, by first | go_num | (rw [IntWalk.wrap64_in _ (by omega)]; go_num), rfl, HB.out.trans (hk.mono HB.out.size), HD3⟩
      | true =>
        obtain rfl : true = res := by have := HD2.out; rw [e, Bool.true_or] at this; exact this
        go_wp2_with (go_at_call 129; refine HCT.out.mono ?_; rintro e w' ⟨rfl, hk⟩; dsimp only; rw [e])
        go_ret
        exact ⟨i, rfl, by simp, HB.out.trans (hk.mono HB.out.size)⟩
    · obtain rfl : i = l.length := by omega
      obtain rfl : false = res := by have := HD.out; rw [List.drop_length] at this; exact this
      go_wp2_with fail
      go_ret
      exact ⟨-1, rfl, (by decide : decide ((0 : Int) ≤ -1) = false), HB.out⟩
theorem conP_any {ok : Nat → Prop} (a : Option Addr) (cap : Nat) (l : List Ty) (X : Nat) (s : Int) (w : World) (hs : SlAt ok w 5 64 Ty.cells ⟨a, cap, l⟩) (hok : ∀ k, ok k → k < w.heap.size) (hx : w.cell? ⟨X, 1, none⟩ = some (I s)) (hX : X < w.heap.size) :
    Calls Tryz.prog 54 #[.slice a l.length cap, .func (.func 129) #[] #[ptr X]] w (Bof w (.bool (l.any (fun y => isOfB y s)))) := by
  have H := Lib.hid (idxP_any a cap l X s w hs hok hx hX)
  generalize l.any (fun y => isOfB y s) = res at *
  unfold Bof
  clear hs hok hx hX
  go_enter Tryz.func54, Tryz.ntmps54
  go_wp2_with (go_at_call 91; refine H.out.mono ?_; rintro e w' ⟨i, rfl, hi, hk⟩; have HI := Lib.hid hi; clear hi)
  all_goals go_ret
  all_goals exact ⟨congrArg (fun b => Ending.returned (Value.bool b)) HI.out, hk⟩
end Go.Proofs.YtfbaikijnjafbaaGreatDoor
