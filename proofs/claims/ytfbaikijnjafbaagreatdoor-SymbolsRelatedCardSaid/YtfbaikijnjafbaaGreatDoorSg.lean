/- Rule 2 of Check: what a class is by itself. Conditions: the tables at T, the table of flags. -/
import Derived.Test.YtfbaikijnjafbaaGreatDoorSd
import Derived.Test.YtfbaikijnjafbaaGreatDoorSe
import Derived.Test.YtfbaikijnjafbaaGreatDoorSf
namespace Go.Proofs.YtfbaikijnjafbaaGreatDoor
set_option linter.unusedSimpArgs false
set_option linter.unusedVariables false
open Go.RowKit
set_option maxRecDepth 100000

def twAny (c : Cls) : Bool := (((twiceB c.tps.l || twiceB c.prms.l) || twiceB c.flds.l) || twiceB c.mths.l) || twiceB c.tys.l
def classM (P : Prg) (i : Nat) (c : Cls) : Int :=
  if nameM c.nm = false then 21
  else if (decide (c.kind < 0) || decide (3 ≤ c.kind)) = true then 16
  else if (foreignB 1 c.flags || !agreesB c.kind c.flags) = true then 15
  else if ((c.owner == (i : Int) || (c.owner != -1 && !inM c.owner P.cls.l.length)) || !listsB P c) = true then 25
  else if twAny c = true then 28
  else if countsB c = false then 4
  else if (!ownsB P i c || !withinB c.prms.l c.flds.l) = true then 15
  else if (hasB c.flags 64 && ((c.prms.l.length : Int) != 1 || (c.flds.l.length : Int) != 1)) = true then 15
  else 0

set_option maxHeartbeats 6400000 in
theorem class_any (P : Prg) (T : Nat) (i : Nat) (w : World) (h : TL w T P) (hg : Gl w) (hi : i < P.cls.l.length) : Calls Tryz.prog 61 #[ptr T, I i] w (Bof w (I (classM P i P.cls.l[i]))) := by
  have hB : Below w.heap.size w (boxC w P.cls.l[i]) := (Below.refl _ _).alloc (Nat.le_refl _) _
  have hL : P.cls.l.length ≤ 140737488355328 := by have h1 := h.prg.cls.1; have h2 := h.prg.cls.2.1; omega
  obtain ⟨b, o, ha, hok, hcs⟩ := sl_at h.prg.cls (by omega)
  obtain ⟨t0, t1, t2, t3, t4, t5, t6, t7, t8, t9, t10, t11, t12⟩ := cls_cells0 (hcs i hi)
  obtain ⟨c0, _, _, _, _, _⟩ := h.cells
  rw [ha] at c0
  have HT : Hid (∀ W, Below (w.heap.size + 1) (boxC w P.cls.l[i]) W → TL W T P) := Lib.hid fun W hW => (h.below hB).below (by rw [World.size_alloc]; exact hW)
  have HC : Hid (∀ W, Below (w.heap.size + 1) (boxC w P.cls.l[i]) W → ClsL (fun k => k < T) W P.cls.l[i]) := Lib.hid fun W hW => (HT.out W hW).prg.clsL _ (List.getElem_mem hi)
  have HG : Hid (∀ W, Below (w.heap.size + 1) (boxC w P.cls.l[i]) W → Gl W) := Lib.hid fun W hW => (hg.below hB hg.1).below hW (Nat.succ_pos _)
  have HOW : Hid (∀ W, Below (w.heap.size + 1) (boxC w P.cls.l[i]) W → listsB P P.cls.l[i] = true → Calls Tryz.prog 100 #[ptr T, I i] W (Bof W (.bool (ownsB P i P.cls.l[i])))) := Lib.hid fun W hW hall => owns_any P T i W (HT.out W hW) hi hall
  have HLT := Lib.hid h.lt
  have HB := Lib.hid hB
  have hii : ((i : Int) < (P.cls.l.length : Int)) := by omega
  clear h hg hB hcs hok
  have HNO := Lib.hid (show ∀ part : Int, part = 1 → sizeM P part = P.cls.l.length from fun part hp => by subst hp; rfl)
  generalize P.cls.l[i] = c at *
  generalize hres : classM P i c = res
  unfold classM at hres
  have HR := Lib.hid hres
  clear hres
  obtain ⟨nm, kind, flags, owner, ⟨ta, tc, tl⟩, ⟨ra, rc, rl⟩, ⟨pa, pc, pl⟩, ⟨fa, fc, fl⟩, ⟨ma, mc, ml⟩, ⟨ya, yc, yl⟩, ⟨sa, sc, sl⟩, ⟨na, nc, nl⟩, p⟩ := c
  unfold Bof at HOW ⊢
  unfold boxC at HB HT HC HG HOW
  unfold Sl.v at t4 t5 t6 t7 t8 t9 t10 t11
  dsimp only at HB HT HC HG HOW HR t4 t5 t6 t7 t8 t9 t10 t11 t0 t1 t2 t3 t12
  go_enter Tryz.func61, Tryz.ntmps61
  go_upto_region 2 with fail
  change Code.wp _ _ _ _ (w.alloc (.cells #[.string nm, I kind, I flags, I owner, .slice ta tl.length tc, .slice ra rl.length rc, .slice pa pl.length pc, .slice fa fl.length fc, .slice ma ml.length mc, .slice ya yl.length yc, .slice sa sl.length sc, .slice na nl.length nc, I p] 54))
  have HX : Hid (∀ W, Below (w.heap.size + 1) (w.alloc (.cells #[.string nm, I kind, I flags, I owner, .slice ta tl.length tc, .slice ra rl.length rc, .slice pa pl.length pc, .slice fa fl.length fc, .slice ma ml.length mc, .slice ya yl.length yc, .slice sa sl.length sc, .slice na nl.length nc, I p] 54)) W → (W.cell? ⟨w.heap.size, 0, none⟩ = some (.string nm) ∧ W.cell? ⟨w.heap.size, 1, none⟩ = some (I kind) ∧ W.cell? ⟨w.heap.size, 2, none⟩ = some (I flags) ∧ W.cell? ⟨w.heap.size, 3, none⟩ = some (I owner) ∧ W.cell? ⟨w.heap.size, 4, none⟩ = some (.slice ta tl.length tc) ∧ W.cell? ⟨w.heap.size, 5, none⟩ = some (.slice ra rl.length rc) ∧ W.cell? ⟨w.heap.size, 6, none⟩ = some (.slice pa pl.length pc) ∧ W.cell? ⟨w.heap.size, 7, none⟩ = some (.slice fa fl.length fc) ∧ W.cell? ⟨w.heap.size, 8, none⟩ = some (.slice ma ml.length mc) ∧ W.cell? ⟨w.heap.size, 9, none⟩ = some (.slice ya yl.length yc) ∧ W.cell? ⟨w.heap.size, 10, none⟩ = some (.slice sa sl.length sc) ∧ W.cell? ⟨w.heap.size, 11, none⟩ = some (.slice na nl.length nc) ∧ W.cell? ⟨w.heap.size, 12, none⟩ = some (I p))) := Lib.hid fun W hW => by
    have hX : ∀ j, W.cell? ⟨w.heap.size, j, none⟩ = #[.string nm, I kind, I flags, I owner, .slice ta tl.length tc, .slice ra rl.length rc, .slice pa pl.length pc, .slice fa fl.length fc, .slice ma ml.length mc, .slice ya yl.length yc, .slice sa sl.length sc, .slice na nl.length nc, I p][j]? := fun j => (hW.cell (Nat.lt_succ_self _)).trans (World.cell?_alloc_new w _ 54 j)
    exact ⟨hX 0, hX 1, hX 2, hX 3, hX 4, hX 5, hX 6, hX 7, hX 8, hX 9, hX 10, hX 11, hX 12⟩
  have hb : Below (w.heap.size + 1) (w.alloc (.cells #[.string nm, I kind, I flags, I owner, .slice ta tl.length tc, .slice ra rl.length rc, .slice pa pl.length pc, .slice fa fl.length fc, .slice ma ml.length mc, .slice ya yl.length yc, .slice sa sl.length sc, .slice na nl.length nc, I p] 54)) (w.alloc (.cells #[.string nm, I kind, I flags, I owner, .slice ta tl.length tc, .slice ra rl.length rc, .slice pa pl.length pc, .slice fa fl.length fc, .slice ma ml.length mc, .slice ya yl.length yc, .slice sa sl.length sc, .slice na nl.length nc, I p] 54)) := Below.refl _ _
  have HS := Lib.hid (show (w.alloc (.cells #[.string nm, I kind, I flags, I owner, .slice ta tl.length tc, .slice ra rl.length rc, .slice pa pl.length pc, .slice fa fl.length fc, .slice ma ml.length mc, .slice ya yl.length yc, .slice sa sl.length sc, .slice na nl.length nc, I p] 54)).heap.size = w.heap.size + 1 by simp)
  clear t0 t1 t2 t3 t4 t5 t6 t7 t8 t9 t10 t11 t12 c0 hii
  generalize (w.alloc (.cells #[.string nm, I kind, I flags, I owner, .slice ta tl.length tc, .slice ra rl.length rc, .slice pa pl.length pc, .slice fa fl.length fc, .slice ma ml.length mc, .slice ya yl.length yc, .slice sa sl.length sc, .slice na nl.length nc, I p] 54)) = w1 at *
  have HF : Hid (∀ W, Below (w.heap.size + 1) w1 W → Below w.heap.size w W) := Lib.hid fun W hW => HB.out.trans (hW.mono (Nat.le_succ _))
  have hTw : ∀ W a cap l, Below (w.heap.size + 1) w1 W → IntsL (fun k => k < T) W ⟨a, cap, l⟩ → Calls Tryz.prog 98 #[.slice a l.length cap] W fun e w' => e = .returned (.bool (twiceB l)) ∧ Below (w.heap.size + 1) w1 w' := fun W a cap l hW hl =>
    (twice_any a cap l W hl (fun k hk => Nat.lt_trans hk (HT.out W hW).lt)).mono fun e w' hp => ⟨hp.1, hW.trans (hp.2.mono (by have := hW.size; have := HS.out; omega))⟩
  have HTW := Lib.hid hTw
  clear hTw
  obtain ⟨x0, x1, x2, x3, x4, x5, x6, x7, x8, x9, x10, x11, x12⟩ := HX.out _ hb
  cases e1 : nameM nm with
  | false =>
    obtain rfl : (21 : Int) = res := by have := HR.out; simp only [e1, Bool.true_or, Bool.or_true, Bool.false_or, Bool.or_false, Bool.not_true, Bool.not_false, Bool.true_and, Bool.false_and, Bool.and_false, Bool.and_true, if_true, if_false, Bool.false_eq_true, Bool.true_eq_false, reduceIte] at this; exact this
    go_wp2_with (first | (go_at_call 94; refine (isName_any _ _).mono ?_; rintro e w2 ⟨rfl, rfl⟩; dsimp only; rw [e1]))
    go_ret
    exact ⟨rfl, HF.out _ hb⟩
  | true =>
    have HR := Lib.hid (show _ = res by have := HR.out; simp only [e1, Bool.true_or, Bool.or_true, Bool.false_or, Bool.or_false, Bool.not_true, Bool.not_false, Bool.true_and, Bool.false_and, Bool.and_false, Bool.and_true, if_true, if_false, Bool.false_eq_true, Bool.true_eq_false, reduceIte] at this; exact this)
    go_upto_region 4 with (first | (go_at_call 94; refine (isName_any _ _).mono ?_; rintro e w2 ⟨rfl, rfl⟩; dsimp only; rw [e1]))
    cases e2 : decide (kind < 0) with
    | true =>
      obtain rfl : (16 : Int) = res := by have := HR.out; simp only [e2, Bool.true_or, Bool.or_true, Bool.false_or, Bool.or_false, Bool.not_true, Bool.not_false, Bool.true_and, Bool.false_and, Bool.and_false, Bool.and_true, if_true, if_false, Bool.false_eq_true, Bool.true_eq_false, reduceIte] at this; exact this
      go_wp2_with fail
      go_ret
      exact ⟨rfl, HF.out _ hb⟩
    | false =>
      cases e2b : decide (3 ≤ kind) with
      | true =>
        obtain rfl : (16 : Int) = res := by have := HR.out; simp only [e2, e2b, Bool.true_or, Bool.or_true, Bool.false_or, Bool.or_false, Bool.not_true, Bool.not_false, Bool.true_and, Bool.false_and, Bool.and_false, Bool.and_true, if_true, if_false, Bool.false_eq_true, Bool.true_eq_false, reduceIte] at this; exact this
        go_wp2_with fail
        go_ret
        exact ⟨rfl, HF.out _ hb⟩
      | false =>
        have HR := Lib.hid (show _ = res by have := HR.out; simp only [e2, e2b, Bool.true_or, Bool.or_true, Bool.false_or, Bool.or_false, Bool.not_true, Bool.not_false, Bool.true_and, Bool.false_and, Bool.and_false, Bool.and_true, if_true, if_false, Bool.false_eq_true, Bool.true_eq_false, reduceIte] at this; exact this)
        go_upto_region 6 with fail
        cases e3 : foreignB 1 flags with
        | true =>
          obtain rfl : (15 : Int) = res := by have := HR.out; simp only [e3, Bool.true_or, Bool.or_true, Bool.false_or, Bool.or_false, Bool.not_true, Bool.not_false, Bool.true_and, Bool.false_and, Bool.and_false, Bool.and_true, if_true, if_false, Bool.false_eq_true, Bool.true_eq_false, reduceIte] at this; exact this
          go_wp2_with (first | (go_at_call 95; refine (foreign_any 1 (by omega) _ _ (HG.out _ hb)).mono ?_; rintro e w2 ⟨rfl, rfl⟩; dsimp only; rw [e3]))
          go_ret
          exact ⟨rfl, HF.out _ hb⟩
        | false =>
          cases e4 : agreesB kind flags with
          | false =>
            obtain rfl : (15 : Int) = res := by have := HR.out; simp only [e3, e4, Bool.true_or, Bool.or_true, Bool.false_or, Bool.or_false, Bool.not_true, Bool.not_false, Bool.true_and, Bool.false_and, Bool.and_false, Bool.and_true, if_true, if_false, Bool.false_eq_true, Bool.true_eq_false, reduceIte] at this; exact this
            go_wp2_with (first | (go_at_call 95; refine (foreign_any 1 (by omega) _ _ (HG.out _ hb)).mono ?_; rintro e w2 ⟨rfl, rfl⟩; dsimp only; rw [e3]) | (go_at_call 96; refine (agrees_any _ _ _).mono ?_; rintro e w2 ⟨rfl, rfl⟩; dsimp only; rw [e4]))
            go_ret
            exact ⟨rfl, HF.out _ hb⟩
          | true =>
            have HR := Lib.hid (show _ = res by have := HR.out; simp only [e3, e4, Bool.true_or, Bool.or_true, Bool.false_or, Bool.or_false, Bool.not_true, Bool.not_false, Bool.true_and, Bool.false_and, Bool.and_false, Bool.and_true, if_true, if_false, Bool.false_eq_true, Bool.true_eq_false, reduceIte] at this; exact this)
            go_upto_region 8 with (first | (go_at_call 95; refine (foreign_any 1 (by omega) _ _ (HG.out _ hb)).mono ?_; rintro e w2 ⟨rfl, rfl⟩; dsimp only; rw [e3]) | (go_at_call 96; refine (agrees_any _ _ _).mono ?_; rintro e w2 ⟨rfl, rfl⟩; dsimp only; rw [e4]))
            cases e5 : (owner == (i : Int)) with
            | true =>
              obtain rfl : (25 : Int) = res := by have := HR.out; simp only [e5, Bool.true_or, Bool.or_true, Bool.false_or, Bool.or_false, Bool.not_true, Bool.not_false, Bool.true_and, Bool.false_and, Bool.and_false, Bool.and_true, if_true, if_false, Bool.false_eq_true, Bool.true_eq_false, reduceIte] at this; exact this
              go_wp2_with fail
              go_ret
              exact ⟨rfl, HF.out _ hb⟩
            | false =>
              cases e6 : (owner != -1) with
              | false =>
                cases e8 : listsB P ⟨nm, kind, flags, owner, ⟨ta, tc, tl⟩, ⟨ra, rc, rl⟩, ⟨pa, pc, pl⟩, ⟨fa, fc, fl⟩, ⟨ma, mc, ml⟩, ⟨ya, yc, yl⟩, ⟨sa, sc, sl⟩, ⟨na, nc, nl⟩, p⟩ with
                | false =>
                  obtain rfl : (25 : Int) = res := by have := HR.out; simp only [e5, e6, e8, Bool.true_or, Bool.or_true, Bool.false_or, Bool.or_false, Bool.not_true, Bool.not_false, Bool.true_and, Bool.false_and, Bool.and_false, Bool.and_true, if_true, if_false, Bool.false_eq_true, Bool.true_eq_false, reduceIte] at this; exact this
                  go_wp2_with (first | (go_at_call 97; refine (hasLists_any P T ⟨nm, kind, flags, owner, ⟨ta, tc, tl⟩, ⟨ra, rc, rl⟩, ⟨pa, pc, pl⟩, ⟨fa, fc, fl⟩, ⟨ma, mc, ml⟩, ⟨ya, yc, yl⟩, ⟨sa, sc, sl⟩, ⟨na, nc, nl⟩, p⟩ _ (HT.out _ hb) (HC.out _ hb) (fun k hk => Nat.lt_trans hk (HT.out _ hb).lt)).mono ?_; rintro e w2 ⟨rfl, hb2⟩; dsimp only; rw [e8]; replace hb := hb.trans (hb2.mono (by have := hb.size; have := HS.out; omega)); clear hb2; obtain ⟨x0, x1, x2, x3, x4, x5, x6, x7, x8, x9, x10, x11, x12⟩ := HX.out _ hb))
                  go_ret
                  exact ⟨rfl, HF.out _ hb⟩
                | true =>
                  have HR := Lib.hid (show _ = res by have := HR.out; simp only [e5, e6, e8, Bool.true_or, Bool.or_true, Bool.false_or, Bool.or_false, Bool.not_true, Bool.not_false, Bool.true_and, Bool.false_and, Bool.and_false, Bool.and_true, if_true, if_false, Bool.false_eq_true, Bool.true_eq_false, reduceIte] at this; exact this)
                  go_upto_region 10 with (first | (go_at_call 97; refine (hasLists_any P T ⟨nm, kind, flags, owner, ⟨ta, tc, tl⟩, ⟨ra, rc, rl⟩, ⟨pa, pc, pl⟩, ⟨fa, fc, fl⟩, ⟨ma, mc, ml⟩, ⟨ya, yc, yl⟩, ⟨sa, sc, sl⟩, ⟨na, nc, nl⟩, p⟩ _ (HT.out _ hb) (HC.out _ hb) (fun k hk => Nat.lt_trans hk (HT.out _ hb).lt)).mono ?_; rintro e w2 ⟨rfl, hb2⟩; dsimp only; rw [e8]; replace hb := hb.trans (hb2.mono (by have := hb.size; have := HS.out; omega)); clear hb2; obtain ⟨x0, x1, x2, x3, x4, x5, x6, x7, x8, x9, x10, x11, x12⟩ := HX.out _ hb))
                  cases e9 : twiceB tl with
                  | true =>
                    obtain rfl : (28 : Int) = res := by have := HR.out; simp only [twAny, e9, Bool.true_or, Bool.or_true, Bool.false_or, Bool.or_false, Bool.not_true, Bool.not_false, Bool.true_and, Bool.false_and, Bool.and_false, Bool.and_true, if_true, if_false, Bool.false_eq_true, Bool.true_eq_false, reduceIte] at this; exact this
                    go_wp2_with (first | (go_at_call 98; refine (HTW.out _ _ _ _ hb (by first | exact (HC.out _ hb).2.2.1.1 | exact (HC.out _ hb).2.2.1.2.1 | exact (HC.out _ hb).2.2.1.2.2.1 | exact (HC.out _ hb).2.2.1.2.2.2.1 | exact (HC.out _ hb).2.2.1.2.2.2.2)).mono ?_; rintro e w2 ⟨rfl, hb2⟩; dsimp only; (first | rw [e9]); replace hb := hb2; clear hb2; obtain ⟨x0, x1, x2, x3, x4, x5, x6, x7, x8, x9, x10, x11, x12⟩ := HX.out _ hb))
                    go_ret
                    exact ⟨rfl, HF.out _ hb⟩
                  | false =>
                    cases e10 : twiceB pl with
                    | true =>
                      obtain rfl : (28 : Int) = res := by have := HR.out; simp only [twAny, e9, e10, Bool.true_or, Bool.or_true, Bool.false_or, Bool.or_false, Bool.not_true, Bool.not_false, Bool.true_and, Bool.false_and, Bool.and_false, Bool.and_true, if_true, if_false, Bool.false_eq_true, Bool.true_eq_false, reduceIte] at this; exact this
                      go_wp2_with (first | (go_at_call 98; refine (HTW.out _ _ _ _ hb (by first | exact (HC.out _ hb).2.2.1.1 | exact (HC.out _ hb).2.2.1.2.1 | exact (HC.out _ hb).2.2.1.2.2.1 | exact (HC.out _ hb).2.2.1.2.2.2.1 | exact (HC.out _ hb).2.2.1.2.2.2.2)).mono ?_; rintro e w2 ⟨rfl, hb2⟩; dsimp only; (first | rw [e9] | rw [e10]); replace hb := hb2; clear hb2; obtain ⟨x0, x1, x2, x3, x4, x5, x6, x7, x8, x9, x10, x11, x12⟩ := HX.out _ hb))
                      go_ret
                      exact ⟨rfl, HF.out _ hb⟩
                    | false =>
                      cases e11 : twiceB fl with
                      | true =>
                        obtain rfl : (28 : Int) = res := by have := HR.out; simp only [twAny, e9, e10, e11, Bool.true_or, Bool.or_true, Bool.false_or, Bool.or_false, Bool.not_true, Bool.not_false, Bool.true_and, Bool.false_and, Bool.and_false, Bool.and_true, if_true, if_false, Bool.false_eq_true, Bool.true_eq_false, reduceIte] at this; exact this
                        go_wp2_with (first | (go_at_call 98; refine (HTW.out _ _ _ _ hb (by first | exact (HC.out _ hb).2.2.1.1 | exact (HC.out _ hb).2.2.1.2.1 | exact (HC.out _ hb).2.2.1.2.2.1 | exact (HC.out _ hb).2.2.1.2.2.2.1 | exact (HC.out _ hb).2.2.1.2.2.2.2)).mono ?_; rintro e w2 ⟨rfl, hb2⟩; dsimp only; (first | rw [e9] | rw [e10] | rw [e11]); replace hb := hb2; clear hb2; obtain ⟨x0, x1, x2, x3, x4, x5, x6, x7, x8, x9, x10, x11, x12⟩ := HX.out _ hb))
                        go_ret
                        exact ⟨rfl, HF.out _ hb⟩
                      | false =>
                        cases e12 : twiceB ml with
                        | true =>
                          obtain rfl : (28 : Int) = res := by have := HR.out; simp only [twAny, e9, e10, e11, e12, Bool.true_or, Bool.or_true, Bool.false_or, Bool.or_false, Bool.not_true, Bool.not_false, Bool.true_and, Bool.false_and, Bool.and_false, Bool.and_true, if_true, if_false, Bool.false_eq_true, Bool.true_eq_false, reduceIte] at this; exact this
                          go_wp2_with (first | (go_at_call 98; refine (HTW.out _ _ _ _ hb (by first | exact (HC.out _ hb).2.2.1.1 | exact (HC.out _ hb).2.2.1.2.1 | exact (HC.out _ hb).2.2.1.2.2.1 | exact (HC.out _ hb).2.2.1.2.2.2.1 | exact (HC.out _ hb).2.2.1.2.2.2.2)).mono ?_; rintro e w2 ⟨rfl, hb2⟩; dsimp only; (first | rw [e9] | rw [e10] | rw [e11] | rw [e12]); replace hb := hb2; clear hb2; obtain ⟨x0, x1, x2, x3, x4, x5, x6, x7, x8, x9, x10, x11, x12⟩ := HX.out _ hb))
                          go_ret
                          exact ⟨rfl, HF.out _ hb⟩
                        | false =>
                          cases e13 : twiceB yl with
                          | true =>
                            obtain rfl : (28 : Int) = res := by have := HR.out; simp only [twAny, e9, e10, e11, e12, e13, Bool.true_or, Bool.or_true, Bool.false_or, Bool.or_false, Bool.not_true, Bool.not_false, Bool.true_and, Bool.false_and, Bool.and_false, Bool.and_true, if_true, if_false, Bool.false_eq_true, Bool.true_eq_false, reduceIte] at this; exact this
                            go_wp2_with (first | (go_at_call 98; refine (HTW.out _ _ _ _ hb (by first | exact (HC.out _ hb).2.2.1.1 | exact (HC.out _ hb).2.2.1.2.1 | exact (HC.out _ hb).2.2.1.2.2.1 | exact (HC.out _ hb).2.2.1.2.2.2.1 | exact (HC.out _ hb).2.2.1.2.2.2.2)).mono ?_; rintro e w2 ⟨rfl, hb2⟩; dsimp only; (first | rw [e9] | rw [e10] | rw [e11] | rw [e12] | rw [e13]); replace hb := hb2; clear hb2; obtain ⟨x0, x1, x2, x3, x4, x5, x6, x7, x8, x9, x10, x11, x12⟩ := HX.out _ hb))
                            go_ret
                            exact ⟨rfl, HF.out _ hb⟩
                          | false =>
                            have HR := Lib.hid (show _ = res by have := HR.out; simp only [twAny, e9, e10, e11, e12, e13, Bool.true_or, Bool.or_true, Bool.false_or, Bool.or_false, Bool.not_true, Bool.not_false, Bool.true_and, Bool.false_and, Bool.and_false, Bool.and_true, if_true, if_false, Bool.false_eq_true, Bool.true_eq_false, reduceIte] at this; exact this)
                            go_upto_region 12 with (first | (go_at_call 98; refine (HTW.out _ _ _ _ hb (by first | exact (HC.out _ hb).2.2.1.1 | exact (HC.out _ hb).2.2.1.2.1 | exact (HC.out _ hb).2.2.1.2.2.1 | exact (HC.out _ hb).2.2.1.2.2.2.1 | exact (HC.out _ hb).2.2.1.2.2.2.2)).mono ?_; rintro e w2 ⟨rfl, hb2⟩; dsimp only; (first | rw [e9] | rw [e10] | rw [e11] | rw [e12] | rw [e13]); replace hb := hb2; clear hb2; obtain ⟨x0, x1, x2, x3, x4, x5, x6, x7, x8, x9, x10, x11, x12⟩ := HX.out _ hb))
                            cases e14 : countsB ⟨nm, kind, flags, owner, ⟨ta, tc, tl⟩, ⟨ra, rc, rl⟩, ⟨pa, pc, pl⟩, ⟨fa, fc, fl⟩, ⟨ma, mc, ml⟩, ⟨ya, yc, yl⟩, ⟨sa, sc, sl⟩, ⟨na, nc, nl⟩, p⟩ with
                            | false =>
                              obtain rfl : (4 : Int) = res := by have := HR.out; simp only [e14, Bool.true_or, Bool.or_true, Bool.false_or, Bool.or_false, Bool.not_true, Bool.not_false, Bool.true_and, Bool.false_and, Bool.and_false, Bool.and_true, if_true, if_false, Bool.false_eq_true, Bool.true_eq_false, reduceIte] at this; exact this
                              go_wp2_with (first | (go_at_call 99; refine (countsFit_any ⟨nm, kind, flags, owner, ⟨ta, tc, tl⟩, ⟨ra, rc, rl⟩, ⟨pa, pc, pl⟩, ⟨fa, fc, fl⟩, ⟨ma, mc, ml⟩, ⟨ya, yc, yl⟩, ⟨sa, sc, sl⟩, ⟨na, nc, nl⟩, p⟩ _).mono ?_; rintro e w2 ⟨rfl, hb2⟩; dsimp only; rw [e14]; replace hb := hb.trans (hb2.mono (by have := hb.size; have := HS.out; omega)); clear hb2; obtain ⟨x0, x1, x2, x3, x4, x5, x6, x7, x8, x9, x10, x11, x12⟩ := HX.out _ hb))
                              go_ret
                              exact ⟨rfl, HF.out _ hb⟩
                            | true =>
                              have HR := Lib.hid (show _ = res by have := HR.out; simp only [e14, Bool.true_or, Bool.or_true, Bool.false_or, Bool.or_false, Bool.not_true, Bool.not_false, Bool.true_and, Bool.false_and, Bool.and_false, Bool.and_true, if_true, if_false, Bool.false_eq_true, Bool.true_eq_false, reduceIte] at this; exact this)
                              go_upto_region 14 with (first | (go_at_call 99; refine (countsFit_any ⟨nm, kind, flags, owner, ⟨ta, tc, tl⟩, ⟨ra, rc, rl⟩, ⟨pa, pc, pl⟩, ⟨fa, fc, fl⟩, ⟨ma, mc, ml⟩, ⟨ya, yc, yl⟩, ⟨sa, sc, sl⟩, ⟨na, nc, nl⟩, p⟩ _).mono ?_; rintro e w2 ⟨rfl, hb2⟩; dsimp only; rw [e14]; replace hb := hb.trans (hb2.mono (by have := hb.size; have := HS.out; omega)); clear hb2; obtain ⟨x0, x1, x2, x3, x4, x5, x6, x7, x8, x9, x10, x11, x12⟩ := HX.out _ hb))
                              cases e15 : ownsB P i ⟨nm, kind, flags, owner, ⟨ta, tc, tl⟩, ⟨ra, rc, rl⟩, ⟨pa, pc, pl⟩, ⟨fa, fc, fl⟩, ⟨ma, mc, ml⟩, ⟨ya, yc, yl⟩, ⟨sa, sc, sl⟩, ⟨na, nc, nl⟩, p⟩ with
                              | false =>
                                obtain rfl : (15 : Int) = res := by have := HR.out; simp only [e15, Bool.true_or, Bool.or_true, Bool.false_or, Bool.or_false, Bool.not_true, Bool.not_false, Bool.true_and, Bool.false_and, Bool.and_false, Bool.and_true, if_true, if_false, Bool.false_eq_true, Bool.true_eq_false, reduceIte] at this; exact this
                                go_wp2_with (first | (go_at_call 100; refine (HOW.out _ hb e8).mono ?_; rintro e w2 ⟨rfl, hb2⟩; dsimp only; rw [e15]; replace hb := hb.trans (hb2.mono (by have := hb.size; have := HS.out; omega)); clear hb2; obtain ⟨x0, x1, x2, x3, x4, x5, x6, x7, x8, x9, x10, x11, x12⟩ := HX.out _ hb))
                                go_ret
                                exact ⟨rfl, HF.out _ hb⟩
                              | true =>
                                cases e16 : withinB pl fl with
                                | false =>
                                  obtain rfl : (15 : Int) = res := by have := HR.out; simp only [e15, e16, Bool.true_or, Bool.or_true, Bool.false_or, Bool.or_false, Bool.not_true, Bool.not_false, Bool.true_and, Bool.false_and, Bool.and_false, Bool.and_true, if_true, if_false, Bool.false_eq_true, Bool.true_eq_false, reduceIte] at this; exact this
                                  go_wp2_with (first | (go_at_call 100; refine (HOW.out _ hb e8).mono ?_; rintro e w2 ⟨rfl, hb2⟩; dsimp only; rw [e15]; replace hb := hb.trans (hb2.mono (by have := hb.size; have := HS.out; omega)); clear hb2; obtain ⟨x0, x1, x2, x3, x4, x5, x6, x7, x8, x9, x10, x11, x12⟩ := HX.out _ hb) | (go_at_call 101; refine (within_any _ _ _ _ _ _ _ (HC.out _ hb).2.2.1.2.1 (HC.out _ hb).2.2.1.2.2.1 (fun k hk => Nat.lt_trans hk (HT.out _ hb).lt)).mono ?_; rintro e w2 ⟨rfl, hb2⟩; dsimp only; rw [e16]; replace hb := hb.trans (hb2.mono (by have := hb.size; have := HS.out; omega)); clear hb2; obtain ⟨x0, x1, x2, x3, x4, x5, x6, x7, x8, x9, x10, x11, x12⟩ := HX.out _ hb))
                                  go_ret
                                  exact ⟨rfl, HF.out _ hb⟩
                                | true =>
                                  have HR := Lib.hid (show _ = res by have := HR.out; simp only [e15, e16, Bool.true_or, Bool.or_true, Bool.false_or, Bool.or_false, Bool.not_true, Bool.not_false, Bool.true_and, Bool.false_and, Bool.and_false, Bool.and_true, if_true, if_false, Bool.false_eq_true, Bool.true_eq_false, reduceIte] at this; exact this)
                                  go_upto_region 16 with (first | (go_at_call 100; refine (HOW.out _ hb e8).mono ?_; rintro e w2 ⟨rfl, hb2⟩; dsimp only; rw [e15]; replace hb := hb.trans (hb2.mono (by have := hb.size; have := HS.out; omega)); clear hb2; obtain ⟨x0, x1, x2, x3, x4, x5, x6, x7, x8, x9, x10, x11, x12⟩ := HX.out _ hb) | (go_at_call 101; refine (within_any _ _ _ _ _ _ _ (HC.out _ hb).2.2.1.2.1 (HC.out _ hb).2.2.1.2.2.1 (fun k hk => Nat.lt_trans hk (HT.out _ hb).lt)).mono ?_; rintro e w2 ⟨rfl, hb2⟩; dsimp only; rw [e16]; replace hb := hb.trans (hb2.mono (by have := hb.size; have := HS.out; omega)); clear hb2; obtain ⟨x0, x1, x2, x3, x4, x5, x6, x7, x8, x9, x10, x11, x12⟩ := HX.out _ hb))
                                  cases e17 : hasB flags 64 with
                                  | false =>
                                    obtain rfl : (0 : Int) = res := by have := HR.out; simp only [e17, Bool.true_or, Bool.or_true, Bool.false_or, Bool.or_false, Bool.not_true, Bool.not_false, Bool.true_and, Bool.false_and, Bool.and_false, Bool.and_true, if_true, if_false, Bool.false_eq_true, Bool.true_eq_false, reduceIte] at this; exact this
                                    go_wp2_with (first | (go_at_call 102; refine (hasAny_any _ _ _).mono ?_; rintro e w2 ⟨rfl, rfl⟩; dsimp only; rw [e17]))
                                    go_ret
                                    exact ⟨rfl, HF.out _ hb⟩
                                  | true =>
                                    cases e18 : ((pl.length : Int) != 1) with
                                    | true =>
                                      obtain rfl : (15 : Int) = res := by have := HR.out; simp only [e17, e18, Bool.true_or, Bool.or_true, Bool.false_or, Bool.or_false, Bool.not_true, Bool.not_false, Bool.true_and, Bool.false_and, Bool.and_false, Bool.and_true, if_true, if_false, Bool.false_eq_true, Bool.true_eq_false, reduceIte] at this; exact this
                                      go_wp2_with (first | (go_at_call 102; refine (hasAny_any _ _ _).mono ?_; rintro e w2 ⟨rfl, rfl⟩; dsimp only; rw [e17]))
                                      go_ret
                                      exact ⟨rfl, HF.out _ hb⟩
                                    | false =>
                                      cases e19 : ((fl.length : Int) != 1) with
                                      | true =>
                                        obtain rfl : (15 : Int) = res := by have := HR.out; simp only [e17, e18, e19, Bool.true_or, Bool.or_true, Bool.false_or, Bool.or_false, Bool.not_true, Bool.not_false, Bool.true_and, Bool.false_and, Bool.and_false, Bool.and_true, if_true, if_false, Bool.false_eq_true, Bool.true_eq_false, reduceIte] at this; exact this
                                        go_wp2_with (first | (go_at_call 102; refine (hasAny_any _ _ _).mono ?_; rintro e w2 ⟨rfl, rfl⟩; dsimp only; rw [e17]))
                                        go_ret
                                        exact ⟨rfl, HF.out _ hb⟩
                                      | false =>
                                        obtain rfl : (0 : Int) = res := by have := HR.out; simp only [e17, e18, e19, Bool.true_or, Bool.or_true, Bool.false_or, Bool.or_false, Bool.not_true, Bool.not_false, Bool.true_and, Bool.false_and, Bool.and_false, Bool.and_true, if_true, if_false, Bool.false_eq_true, Bool.true_eq_false, reduceIte] at this; exact this
                                        go_wp2_with (first | (go_at_call 102; refine (hasAny_any _ _ _).mono ?_; rintro e w2 ⟨rfl, rfl⟩; dsimp only; rw [e17]))
                                        go_ret
                                        exact ⟨rfl, HF.out _ hb⟩
              | true =>
                cases e7 : inM owner P.cls.l.length with
                | false =>
                  obtain rfl : (25 : Int) = res := by have := HR.out; simp only [e5, e6, e7, Bool.true_or, Bool.or_true, Bool.false_or, Bool.or_false, Bool.not_true, Bool.not_false, Bool.true_and, Bool.false_and, Bool.and_false, Bool.and_true, if_true, if_false, Bool.false_eq_true, Bool.true_eq_false, reduceIte] at this; exact this
                  go_wp2_with (first | (go_at_call 41; refine (has_any P T _ _ _ (HT.out _ hb)).mono ?_; rintro e w2 ⟨rfl, rfl⟩; dsimp only; rw [HNO.out _ rfl, e7]))
                  go_ret
                  exact ⟨rfl, HF.out _ hb⟩
                | true =>
                  cases e8 : listsB P ⟨nm, kind, flags, owner, ⟨ta, tc, tl⟩, ⟨ra, rc, rl⟩, ⟨pa, pc, pl⟩, ⟨fa, fc, fl⟩, ⟨ma, mc, ml⟩, ⟨ya, yc, yl⟩, ⟨sa, sc, sl⟩, ⟨na, nc, nl⟩, p⟩ with
                  | false =>
                    obtain rfl : (25 : Int) = res := by have := HR.out; simp only [e5, e6, e7, e8, Bool.true_or, Bool.or_true, Bool.false_or, Bool.or_false, Bool.not_true, Bool.not_false, Bool.true_and, Bool.false_and, Bool.and_false, Bool.and_true, if_true, if_false, Bool.false_eq_true, Bool.true_eq_false, reduceIte] at this; exact this
                    go_wp2_with (first | (go_at_call 41; refine (has_any P T _ _ _ (HT.out _ hb)).mono ?_; rintro e w2 ⟨rfl, rfl⟩; dsimp only; rw [HNO.out _ rfl, e7]) | (go_at_call 97; refine (hasLists_any P T ⟨nm, kind, flags, owner, ⟨ta, tc, tl⟩, ⟨ra, rc, rl⟩, ⟨pa, pc, pl⟩, ⟨fa, fc, fl⟩, ⟨ma, mc, ml⟩, ⟨ya, yc, yl⟩, ⟨sa, sc, sl⟩, ⟨na, nc, nl⟩, p⟩ _ (HT.out _ hb) (HC.out _ hb) (fun k hk => Nat.lt_trans hk (HT.out _ hb).lt)).mono ?_; rintro e w2 ⟨rfl, hb2⟩; dsimp only; rw [e8]; replace hb := hb.trans (hb2.mono (by have := hb.size; have := HS.out; omega)); clear hb2; obtain ⟨x0, x1, x2, x3, x4, x5, x6, x7, x8, x9, x10, x11, x12⟩ := HX.out _ hb))
                    go_ret
                    exact ⟨rfl, HF.out _ hb⟩
                  | true =>
                    have HR := Lib.hid (show _ = res by have := HR.out; simp only [e5, e6, e7, e8, Bool.true_or, Bool.or_true, Bool.false_or, Bool.or_false, Bool.not_true, Bool.not_false, Bool.true_and, Bool.false_and, Bool.and_false, Bool.and_true, if_true, if_false, Bool.false_eq_true, Bool.true_eq_false, reduceIte] at this; exact this)
                    go_upto_region 10 with (first | (go_at_call 41; refine (has_any P T _ _ _ (HT.out _ hb)).mono ?_; rintro e w2 ⟨rfl, rfl⟩; dsimp only; rw [HNO.out _ rfl, e7]) | (go_at_call 97; refine (hasLists_any P T ⟨nm, kind, flags, owner, ⟨ta, tc, tl⟩, ⟨ra, rc, rl⟩, ⟨pa, pc, pl⟩, ⟨fa, fc, fl⟩, ⟨ma, mc, ml⟩, ⟨ya, yc, yl⟩, ⟨sa, sc, sl⟩, ⟨na, nc, nl⟩, p⟩ _ (HT.out _ hb) (HC.out _ hb) (fun k hk => Nat.lt_trans hk (HT.out _ hb).lt)).mono ?_; rintro e w2 ⟨rfl, hb2⟩; dsimp only; rw [e8]; replace hb := hb.trans (hb2.mono (by have := hb.size; have := HS.out; omega)); clear hb2; obtain ⟨x0, x1, x2, x3, x4, x5, x6, x7, x8, x9, x10, x11, x12⟩ := HX.out _ hb))
                    cases e9 : twiceB tl with
                    | true =>
                      obtain rfl : (28 : Int) = res := by have := HR.out; simp only [twAny, e9, Bool.true_or, Bool.or_true, Bool.false_or, Bool.or_false, Bool.not_true, Bool.not_false, Bool.true_and, Bool.false_and, Bool.and_false, Bool.and_true, if_true, if_false, Bool.false_eq_true, Bool.true_eq_false, reduceIte] at this; exact this
                      go_wp2_with (first | (go_at_call 98; refine (HTW.out _ _ _ _ hb (by first | exact (HC.out _ hb).2.2.1.1 | exact (HC.out _ hb).2.2.1.2.1 | exact (HC.out _ hb).2.2.1.2.2.1 | exact (HC.out _ hb).2.2.1.2.2.2.1 | exact (HC.out _ hb).2.2.1.2.2.2.2)).mono ?_; rintro e w2 ⟨rfl, hb2⟩; dsimp only; (first | rw [e9]); replace hb := hb2; clear hb2; obtain ⟨x0, x1, x2, x3, x4, x5, x6, x7, x8, x9, x10, x11, x12⟩ := HX.out _ hb))
                      go_ret
                      exact ⟨rfl, HF.out _ hb⟩
                    | false =>
                      cases e10 : twiceB pl with
                      | true =>
                        obtain rfl : (28 : Int) = res := by have := HR.out; simp only [twAny, e9, e10, Bool.true_or, Bool.or_true, Bool.false_or, Bool.or_false, Bool.not_true, Bool.not_false, Bool.true_and, Bool.false_and, Bool.and_false, Bool.and_true, if_true, if_false, Bool.false_eq_true, Bool.true_eq_false, reduceIte] at this; exact this
                        go_wp2_with (first | (go_at_call 98; refine (HTW.out _ _ _ _ hb (by first | exact (HC.out _ hb).2.2.1.1 | exact (HC.out _ hb).2.2.1.2.1 | exact (HC.out _ hb).2.2.1.2.2.1 | exact (HC.out _ hb).2.2.1.2.2.2.1 | exact (HC.out _ hb).2.2.1.2.2.2.2)).mono ?_; rintro e w2 ⟨rfl, hb2⟩; dsimp only; (first | rw [e9] | rw [e10]); replace hb := hb2; clear hb2; obtain ⟨x0, x1, x2, x3, x4, x5, x6, x7, x8, x9, x10, x11, x12⟩ := HX.out _ hb))
                        go_ret
                        exact ⟨rfl, HF.out _ hb⟩
                      | false =>
                        cases e11 : twiceB fl with
                        | true =>
                          obtain rfl : (28 : Int) = res := by have := HR.out; simp only [twAny, e9, e10, e11, Bool.true_or, Bool.or_true, Bool.false_or, Bool.or_false, Bool.not_true, Bool.not_false, Bool.true_and, Bool.false_and, Bool.and_false, Bool.and_true, if_true, if_false, Bool.false_eq_true, Bool.true_eq_false, reduceIte] at this; exact this
                          go_wp2_with (first | (go_at_call 98; refine (HTW.out _ _ _ _ hb (by first | exact (HC.out _ hb).2.2.1.1 | exact (HC.out _ hb).2.2.1.2.1 | exact (HC.out _ hb).2.2.1.2.2.1 | exact (HC.out _ hb).2.2.1.2.2.2.1 | exact (HC.out _ hb).2.2.1.2.2.2.2)).mono ?_; rintro e w2 ⟨rfl, hb2⟩; dsimp only; (first | rw [e9] | rw [e10] | rw [e11]); replace hb := hb2; clear hb2; obtain ⟨x0, x1, x2, x3, x4, x5, x6, x7, x8, x9, x10, x11, x12⟩ := HX.out _ hb))
                          go_ret
                          exact ⟨rfl, HF.out _ hb⟩
                        | false =>
                          cases e12 : twiceB ml with
                          | true =>
                            obtain rfl : (28 : Int) = res := by have := HR.out; simp only [twAny, e9, e10, e11, e12, Bool.true_or, Bool.or_true, Bool.false_or, Bool.or_false, Bool.not_true, Bool.not_false, Bool.true_and, Bool.false_and, Bool.and_false, Bool.and_true, if_true, if_false, Bool.false_eq_true, Bool.true_eq_false, reduceIte] at this; exact this
                            go_wp2_with (first | (go_at_call 98; refine (HTW.out _ _ _ _ hb (by first | exact (HC.out _ hb).2.2.1.1 | exact (HC.out _ hb).2.2.1.2.1 | exact (HC.out _ hb).2.2.1.2.2.1 | exact (HC.out _ hb).2.2.1.2.2.2.1 | exact (HC.out _ hb).2.2.1.2.2.2.2)).mono ?_; rintro e w2 ⟨rfl, hb2⟩; dsimp only; (first | rw [e9] | rw [e10] | rw [e11] | rw [e12]); replace hb := hb2; clear hb2; obtain ⟨x0, x1, x2, x3, x4, x5, x6, x7, x8, x9, x10, x11, x12⟩ := HX.out _ hb))
                            go_ret
                            exact ⟨rfl, HF.out _ hb⟩
                          | false =>
                            cases e13 : twiceB yl with
                            | true =>
                              obtain rfl : (28 : Int) = res := by have := HR.out; simp only [twAny, e9, e10, e11, e12, e13, Bool.true_or, Bool.or_true, Bool.false_or, Bool.or_false, Bool.not_true, Bool.not_false, Bool.true_and, Bool.false_and, Bool.and_false, Bool.and_true, if_true, if_false, Bool.false_eq_true, Bool.true_eq_false, reduceIte] at this; exact this
                              go_wp2_with (first | (go_at_call 98; refine (HTW.out _ _ _ _ hb (by first | exact (HC.out _ hb).2.2.1.1 | exact (HC.out _ hb).2.2.1.2.1 | exact (HC.out _ hb).2.2.1.2.2.1 | exact (HC.out _ hb).2.2.1.2.2.2.1 | exact (HC.out _ hb).2.2.1.2.2.2.2)).mono ?_; rintro e w2 ⟨rfl, hb2⟩; dsimp only; (first | rw [e9] | rw [e10] | rw [e11] | rw [e12] | rw [e13]); replace hb := hb2; clear hb2; obtain ⟨x0, x1, x2, x3, x4, x5, x6, x7, x8, x9, x10, x11, x12⟩ := HX.out _ hb))
                              go_ret
                              exact ⟨rfl, HF.out _ hb⟩
                            | false =>
                              have HR := Lib.hid (show _ = res by have := HR.out; simp only [twAny, e9, e10, e11, e12, e13, Bool.true_or, Bool.or_true, Bool.false_or, Bool.or_false, Bool.not_true, Bool.not_false, Bool.true_and, Bool.false_and, Bool.and_false, Bool.and_true, if_true, if_false, Bool.false_eq_true, Bool.true_eq_false, reduceIte] at this; exact this)
                              go_upto_region 12 with (first | (go_at_call 98; refine (HTW.out _ _ _ _ hb (by first | exact (HC.out _ hb).2.2.1.1 | exact (HC.out _ hb).2.2.1.2.1 | exact (HC.out _ hb).2.2.1.2.2.1 | exact (HC.out _ hb).2.2.1.2.2.2.1 | exact (HC.out _ hb).2.2.1.2.2.2.2)).mono ?_; rintro e w2 ⟨rfl, hb2⟩; dsimp only; (first | rw [e9] | rw [e10] | rw [e11] | rw [e12] | rw [e13]); replace hb := hb2; clear hb2; obtain ⟨x0, x1, x2, x3, x4, x5, x6, x7, x8, x9, x10, x11, x12⟩ := HX.out _ hb))
                              cases e14 : countsB ⟨nm, kind, flags, owner, ⟨ta, tc, tl⟩, ⟨ra, rc, rl⟩, ⟨pa, pc, pl⟩, ⟨fa, fc, fl⟩, ⟨ma, mc, ml⟩, ⟨ya, yc, yl⟩, ⟨sa, sc, sl⟩, ⟨na, nc, nl⟩, p⟩ with
                              | false =>
                                obtain rfl : (4 : Int) = res := by have := HR.out; simp only [e14, Bool.true_or, Bool.or_true, Bool.false_or, Bool.or_false, Bool.not_true, Bool.not_false, Bool.true_and, Bool.false_and, Bool.and_false, Bool.and_true, if_true, if_false, Bool.false_eq_true, Bool.true_eq_false, reduceIte] at this; exact this
                                go_wp2_with (first | (go_at_call 99; refine (countsFit_any ⟨nm, kind, flags, owner, ⟨ta, tc, tl⟩, ⟨ra, rc, rl⟩, ⟨pa, pc, pl⟩, ⟨fa, fc, fl⟩, ⟨ma, mc, ml⟩, ⟨ya, yc, yl⟩, ⟨sa, sc, sl⟩, ⟨na, nc, nl⟩, p⟩ _).mono ?_; rintro e w2 ⟨rfl, hb2⟩; dsimp only; rw [e14]; replace hb := hb.trans (hb2.mono (by have := hb.size; have := HS.out; omega)); clear hb2; obtain ⟨x0, x1, x2, x3, x4, x5, x6, x7, x8, x9, x10, x11, x12⟩ := HX.out _ hb))
                                go_ret
                                exact ⟨rfl, HF.out _ hb⟩
                              | true =>
                                have HR := Lib.hid (show _ = res by have := HR.out; simp only [e14, Bool.true_or, Bool.or_true, Bool.false_or, Bool.or_false, Bool.not_true, Bool.not_false, Bool.true_and, Bool.false_and, Bool.and_false, Bool.and_true, if_true, if_false, Bool.false_eq_true, Bool.true_eq_false, reduceIte] at this; exact this)
                                go_upto_region 14 with (first | (go_at_call 99; refine (countsFit_any ⟨nm, kind, flags, owner, ⟨ta, tc, tl⟩, ⟨ra, rc, rl⟩, ⟨pa, pc, pl⟩, ⟨fa, fc, fl⟩, ⟨ma, mc, ml⟩, ⟨ya, yc, yl⟩, ⟨sa, sc, sl⟩, ⟨na, nc, nl⟩, p⟩ _).mono ?_; rintro e w2 ⟨rfl, hb2⟩; dsimp only; rw [e14]; replace hb := hb.trans (hb2.mono (by have := hb.size; have := HS.out; omega)); clear hb2; obtain ⟨x0, x1, x2, x3, x4, x5, x6, x7, x8, x9, x10, x11, x12⟩ := HX.out _ hb))
                                cases e15 : ownsB P i ⟨nm, kind, flags, owner, ⟨ta, tc, tl⟩, ⟨ra, rc, rl⟩, ⟨pa, pc, pl⟩, ⟨fa, fc, fl⟩, ⟨ma, mc, ml⟩, ⟨ya, yc, yl⟩, ⟨sa, sc, sl⟩, ⟨na, nc, nl⟩, p⟩ with
                                | false =>
                                  obtain rfl : (15 : Int) = res := by have := HR.out; simp only [e15, Bool.true_or, Bool.or_true, Bool.false_or, Bool.or_false, Bool.not_true, Bool.not_false, Bool.true_and, Bool.false_and, Bool.and_false, Bool.and_true, if_true, if_false, Bool.false_eq_true, Bool.true_eq_false, reduceIte] at this; exact this
                                  go_wp2_with (first | (go_at_call 100; refine (HOW.out _ hb e8).mono ?_; rintro e w2 ⟨rfl, hb2⟩; dsimp only; rw [e15]; replace hb := hb.trans (hb2.mono (by have := hb.size; have := HS.out; omega)); clear hb2; obtain ⟨x0, x1, x2, x3, x4, x5, x6, x7, x8, x9, x10, x11, x12⟩ := HX.out _ hb))
                                  go_ret
                                  exact ⟨rfl, HF.out _ hb⟩
                                | true =>
                                  cases e16 : withinB pl fl with
                                  | false =>
                                    obtain rfl : (15 : Int) = res := by have := HR.out; simp only [e15, e16, Bool.true_or, Bool.or_true, Bool.false_or, Bool.or_false, Bool.not_true, Bool.not_false, Bool.true_and, Bool.false_and, Bool.and_false, Bool.and_true, if_true, if_false, Bool.false_eq_true, Bool.true_eq_false, reduceIte] at this; exact this
                                    go_wp2_with (first | (go_at_call 100; refine (HOW.out _ hb e8).mono ?_; rintro e w2 ⟨rfl, hb2⟩; dsimp only; rw [e15]; replace hb := hb.trans (hb2.mono (by have := hb.size; have := HS.out; omega)); clear hb2; obtain ⟨x0, x1, x2, x3, x4, x5, x6, x7, x8, x9, x10, x11, x12⟩ := HX.out _ hb) | (go_at_call 101; refine (within_any _ _ _ _ _ _ _ (HC.out _ hb).2.2.1.2.1 (HC.out _ hb).2.2.1.2.2.1 (fun k hk => Nat.lt_trans hk (HT.out _ hb).lt)).mono ?_; rintro e w2 ⟨rfl, hb2⟩; dsimp only; rw [e16]; replace hb := hb.trans (hb2.mono (by have := hb.size; have := HS.out; omega)); clear hb2; obtain ⟨x0, x1, x2, x3, x4, x5, x6, x7, x8, x9, x10, x11, x12⟩ := HX.out _ hb))
                                    go_ret
                                    exact ⟨rfl, HF.out _ hb⟩
                                  | true =>
                                    have HR := Lib.hid (show _ = res by have := HR.out; simp only [e15, e16, Bool.true_or, Bool.or_true, Bool.false_or, Bool.or_false, Bool.not_true, Bool.not_false, Bool.true_and, Bool.false_and, Bool.and_false, Bool.and_true, if_true, if_false, Bool.false_eq_true, Bool.true_eq_false, reduceIte] at this; exact this)
                                    go_upto_region 16 with (first | (go_at_call 100; refine (HOW.out _ hb e8).mono ?_; rintro e w2 ⟨rfl, hb2⟩; dsimp only; rw [e15]; replace hb := hb.trans (hb2.mono (by have := hb.size; have := HS.out; omega)); clear hb2; obtain ⟨x0, x1, x2, x3, x4, x5, x6, x7, x8, x9, x10, x11, x12⟩ := HX.out _ hb) | (go_at_call 101; refine (within_any _ _ _ _ _ _ _ (HC.out _ hb).2.2.1.2.1 (HC.out _ hb).2.2.1.2.2.1 (fun k hk => Nat.lt_trans hk (HT.out _ hb).lt)).mono ?_; rintro e w2 ⟨rfl, hb2⟩; dsimp only; rw [e16]; replace hb := hb.trans (hb2.mono (by have := hb.size; have := HS.out; omega)); clear hb2; obtain ⟨x0, x1, x2, x3, x4, x5, x6, x7, x8, x9, x10, x11, x12⟩ := HX.out _ hb))
                                    cases e17 : hasB flags 64 with
                                    | false =>
                                      obtain rfl : (0 : Int) = res := by have := HR.out; simp only [e17, Bool.true_or, Bool.or_true, Bool.false_or, Bool.or_false, Bool.not_true, Bool.not_false, Bool.true_and, Bool.false_and, Bool.and_false, Bool.and_true, if_true, if_false, Bool.false_eq_true, Bool.true_eq_false, reduceIte] at this; exact this
                                      go_wp2_with (first | (go_at_call 102; refine (hasAny_any _ _ _).mono ?_; rintro e w2 ⟨rfl, rfl⟩; dsimp only; rw [e17]))
                                      go_ret
                                      exact ⟨rfl, HF.out _ hb⟩
                                    | true =>
                                      cases e18 : ((pl.length : Int) != 1) with
                                      | true =>
                                        obtain rfl : (15 : Int) = res := by have := HR.out; simp only [e17, e18, Bool.true_or, Bool.or_true, Bool.false_or, Bool.or_false, Bool.not_true, Bool.not_false, Bool.true_and, Bool.false_and, Bool.and_false, Bool.and_true, if_true, if_false, Bool.false_eq_true, Bool.true_eq_false, reduceIte] at this; exact this
                                        go_wp2_with (first | (go_at_call 102; refine (hasAny_any _ _ _).mono ?_; rintro e w2 ⟨rfl, rfl⟩; dsimp only; rw [e17]))
                                        go_ret
                                        exact ⟨rfl, HF.out _ hb⟩
                                      | false =>
                                        cases e19 : ((fl.length : Int) != 1) with
                                        | true =>
                                          obtain rfl : (15 : Int) = res := by have := HR.out; simp only [e17, e18, e19, Bool.true_or, Bool.or_true, Bool.false_or, Bool.or_false, Bool.not_true, Bool.not_false, Bool.true_and, Bool.false_and, Bool.and_false, Bool.and_true, if_true, if_false, Bool.false_eq_true, Bool.true_eq_false, reduceIte] at this; exact this
                                          go_wp2_with (first | (go_at_call 102; refine (hasAny_any _ _ _).mono ?_; rintro e w2 ⟨rfl, rfl⟩; dsimp only; rw [e17]))
                                          go_ret
                                          exact ⟨rfl, HF.out _ hb⟩
                                        | false =>
                                          obtain rfl : (0 : Int) = res := by have := HR.out; simp only [e17, e18, e19, Bool.true_or, Bool.or_true, Bool.false_or, Bool.or_false, Bool.not_true, Bool.not_false, Bool.true_and, Bool.false_and, Bool.and_false, Bool.and_true, if_true, if_false, Bool.false_eq_true, Bool.true_eq_false, reduceIte] at this; exact this
                                          go_wp2_with (first | (go_at_call 102; refine (hasAny_any _ _ _).mono ?_; rintro e w2 ⟨rfl, rfl⟩; dsimp only; rw [e17]))
                                          go_ret
                                          exact ⟨rfl, HF.out _ hb⟩
end Go.Proofs.YtfbaikijnjafbaaGreatDoor
