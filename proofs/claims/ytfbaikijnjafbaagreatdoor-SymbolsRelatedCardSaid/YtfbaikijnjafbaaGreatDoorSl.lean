/- Rule 4 of Check: the parents of a class. Conditions: the tables at T. -/
import Derived.Test.YtfbaikijnjafbaaGreatDoorSk
namespace Go.Proofs.YtfbaikijnjafbaaGreatDoor
set_option linter.unusedSimpArgs false
set_option linter.unusedVariables false
open Go.RowKit
set_option maxRecDepth 100000

def parT (P : Prg) (c : Cls) : Nat → Nat → Int
  | 0, _ => 0
  | n + 1, i => if (parentM P c i != 0) = true then parentM P c i else parT P c n (i + 1)
def parentsM (P : Prg) (c : Cls) : Int :=
  if ((c.pars.l.length : Int) == 0) = true then 10
  else if decide (12 < (c.pars.l.length : Int)) = true then 18
  else parT P c c.pars.l.length 0

set_option maxHeartbeats 6400000 in
theorem parents_any (P : Prg) (T : Nat) (i : Nat) (w : World) (h : TL w T P) (hi : i < P.cls.l.length) : Calls Tryz.prog 63 #[ptr T, I i] w (Bof w (I (parentsM P P.cls.l[i]))) := by
  have hB : Below w.heap.size w (boxC w P.cls.l[i]) := (Below.refl _ _).alloc (Nat.le_refl _) _
  have hL : P.cls.l.length ≤ 140737488355328 := by have h1 := h.prg.cls.1; have h2 := h.prg.cls.2.1; omega
  obtain ⟨b, o, ha, hok, hcs⟩ := sl_at h.prg.cls (by omega)
  obtain ⟨t0, t1, t2, t3, t4, t5, t6, t7, t8, t9, t10, t11, t12⟩ := cls_cells0 (hcs i hi)
  obtain ⟨c0, _, _, _, _, _⟩ := h.cells
  rw [ha] at c0
  have HT : Hid (∀ W, Below (w.heap.size + 1) (boxC w P.cls.l[i]) W → TL W T P) := Lib.hid fun W hW => (h.below hB).below (by rw [World.size_alloc]; exact hW)
  have HC : Hid (∀ W, Below (w.heap.size + 1) (boxC w P.cls.l[i]) W → ClsL (fun k => k < T) W P.cls.l[i]) := Lib.hid fun W hW => (HT.out W hW).prg.clsL _ (List.getElem_mem hi)
  have HLT := Lib.hid h.lt
  have HB := Lib.hid hB
  have hii : ((i : Int) < (P.cls.l.length : Int)) := by omega
  clear h hB hcs hok
  generalize P.cls.l[i] = c at *
  have HPA : Hid (∀ W place, Below (w.heap.size + 1) (boxC w c) W → place < c.pars.l.length → Calls Tryz.prog 103 #[ptr T, .agg c.cells.toArray, I (place : Nat)] W (Bof W (I (parentM P c place)))) := Lib.hid fun W place hW hp => parent_any P T c place W (HT.out W hW) (HC.out W hW) hp
  rw [cls_agg] at HPA
  have HLR := Lib.hid (show c.pars.l.length ≤ 140737488355328 by have h1 := (HC.out _ (Below.refl _ _)).2.2.2.1.1.1; have h2 := (HC.out _ (Below.refl _ _)).2.2.2.1.1.2.1; omega)
  generalize hres : parentsM P c = res
  unfold parentsM at hres
  have HR := Lib.hid hres
  clear hres
  obtain ⟨nm, kind, flags, owner, ⟨ta, tc, tl⟩, ⟨ra, rc, rl⟩, ⟨pa, pc, pl⟩, ⟨fa, fc, fl⟩, ⟨ma, mc, ml⟩, ⟨ya, yc, yl⟩, ⟨sa, sc, sl⟩, ⟨na, nc, nl⟩, p⟩ := c
  unfold Bof at HPA ⊢
  unfold boxC at HB HT HC HPA
  unfold Sl.v at t4 t5 t6 t7 t8 t9 t10 t11
  dsimp only at HB HT HC HPA HLR HR t4 t5 t6 t7 t8 t9 t10 t11 t0 t1 t2 t3 t12
  go_enter Tryz.func63, Tryz.ntmps63
  go_upto_region 2 with fail
  change Code.wp _ _ _ _ (w.alloc (.cells #[.string nm, I kind, I flags, I owner, .slice ta tl.length tc, .slice ra rl.length rc, .slice pa pl.length pc, .slice fa fl.length fc, .slice ma ml.length mc, .slice ya yl.length yc, .slice sa sl.length sc, .slice na nl.length nc, I p] 54))
  have HX : Hid (∀ W, Below (w.heap.size + 1) (w.alloc (.cells #[.string nm, I kind, I flags, I owner, .slice ta tl.length tc, .slice ra rl.length rc, .slice pa pl.length pc, .slice fa fl.length fc, .slice ma ml.length mc, .slice ya yl.length yc, .slice sa sl.length sc, .slice na nl.length nc, I p] 54)) W → (W.cell? ⟨w.heap.size, 0, none⟩ = some (.string nm) ∧ W.cell? ⟨w.heap.size, 1, none⟩ = some (I kind) ∧ W.cell? ⟨w.heap.size, 2, none⟩ = some (I flags) ∧ W.cell? ⟨w.heap.size, 3, none⟩ = some (I owner) ∧ W.cell? ⟨w.heap.size, 4, none⟩ = some (.slice ta tl.length tc) ∧ W.cell? ⟨w.heap.size, 5, none⟩ = some (.slice ra rl.length rc) ∧ W.cell? ⟨w.heap.size, 6, none⟩ = some (.slice pa pl.length pc) ∧ W.cell? ⟨w.heap.size, 7, none⟩ = some (.slice fa fl.length fc) ∧ W.cell? ⟨w.heap.size, 8, none⟩ = some (.slice ma ml.length mc) ∧ W.cell? ⟨w.heap.size, 9, none⟩ = some (.slice ya yl.length yc) ∧ W.cell? ⟨w.heap.size, 10, none⟩ = some (.slice sa sl.length sc) ∧ W.cell? ⟨w.heap.size, 11, none⟩ = some (.slice na nl.length nc) ∧ W.cell? ⟨w.heap.size, 12, none⟩ = some (I p))) := Lib.hid fun W hW => by
    have hX : ∀ j, W.cell? ⟨w.heap.size, j, none⟩ = #[.string nm, I kind, I flags, I owner, .slice ta tl.length tc, .slice ra rl.length rc, .slice pa pl.length pc, .slice fa fl.length fc, .slice ma ml.length mc, .slice ya yl.length yc, .slice sa sl.length sc, .slice na nl.length nc, I p][j]? := fun j => (hW.cell (Nat.lt_succ_self _)).trans (World.cell?_alloc_new w _ 54 j)
    exact ⟨hX 0, hX 1, hX 2, hX 3, hX 4, hX 5, hX 6, hX 7, hX 8, hX 9, hX 10, hX 11, hX 12⟩
  have hb : Below (w.heap.size + 1) (w.alloc (.cells #[.string nm, I kind, I flags, I owner, .slice ta tl.length tc, .slice ra rl.length rc, .slice pa pl.length pc, .slice fa fl.length fc, .slice ma ml.length mc, .slice ya yl.length yc, .slice sa sl.length sc, .slice na nl.length nc, I p] 54)) (w.alloc (.cells #[.string nm, I kind, I flags, I owner, .slice ta tl.length tc, .slice ra rl.length rc, .slice pa pl.length pc, .slice fa fl.length fc, .slice ma ml.length mc, .slice ya yl.length yc, .slice sa sl.length sc, .slice na nl.length nc, I p] 54)) := Below.refl _ _
  have HS := Lib.hid (show (w.alloc (.cells #[.string nm, I kind, I flags, I owner, .slice ta tl.length tc, .slice ra rl.length rc, .slice pa pl.length pc, .slice fa fl.length fc, .slice ma ml.length mc, .slice ya yl.length yc, .slice sa sl.length sc, .slice na nl.length nc, I p] 54)).heap.size = w.heap.size + 1 by simp)
  clear t0 t1 t2 t3 t4 t5 t6 t7 t8 t9 t10 t11 t12 c0 hii
  generalize (w.alloc (.cells #[.string nm, I kind, I flags, I owner, .slice ta tl.length tc, .slice ra rl.length rc, .slice pa pl.length pc, .slice fa fl.length fc, .slice ma ml.length mc, .slice ya yl.length yc, .slice sa sl.length sc, .slice na nl.length nc, I p] 54)) = w1 at *
  have HF : Hid (∀ W, Below (w.heap.size + 1) w1 W → Below w.heap.size w W) := Lib.hid fun W hW => HB.out.trans (hW.mono (Nat.le_succ _))
  obtain ⟨x0, x1, x2, x3, x4, x5, x6, x7, x8, x9, x10, x11, x12⟩ := HX.out _ hb
  have hlr := HLR.out
  cases e1 : ((rl.length : Int) == 0) with
  | true =>
    obtain rfl : (10 : Int) = res := by have := HR.out; rw [e1] at this; simpa using this
    go_wp2_with fail
    go_ret
    exact ⟨rfl, HF.out _ hb⟩
  | false =>
    have HR := Lib.hid (show _ = res by have := HR.out; simp only [e1, if_true, if_false, Bool.false_eq_true, reduceIte] at this; exact this)
    cases e2 : decide (12 < (rl.length : Int)) with
    | true =>
      obtain rfl : (18 : Int) = res := by have := HR.out; rw [e2] at this; simpa using this
      go_wp2_with fail
      go_ret
      exact ⟨rfl, HF.out _ hb⟩
    | false =>
      have HR := Lib.hid (show _ = res by have := HR.out; simp only [e2, if_true, if_false, Bool.false_eq_true, reduceIte] at this; exact this)
      go_wp2_with fail
      go_loopg [27] (rl.length + 1) (fun n v wr => ∃ k : Nat, k ≤ rl.length ∧ v = .int .i64 k ∧ Hid (n = rl.length + 1 - k) ∧ Hid (parT P ⟨nm, kind, flags, owner, ⟨ta, tc, tl⟩, ⟨ra, rc, rl⟩, ⟨pa, pc, pl⟩, ⟨fa, fc, fl⟩, ⟨ma, mc, ml⟩, ⟨ya, yc, yl⟩, ⟨sa, sc, sl⟩, ⟨na, nc, nl⟩, p⟩ (rl.length - k) k = res) ∧ Hid (Below (w.heap.size + 1) w1 wr))
      case atStart => exact ⟨0, by omega, rfl, rfl, HR.out, hb⟩
      case round =>
        clear hb x0 x1 x2 x3 x4 x5 x6 x7 x8 x9 x10 x11 x12
        obtain ⟨k, hk, rfl, HN, HD, HW⟩ := hrel
        have hb := HW.out
        by_cases hlt : k < rl.length
        · have d2 : ((k : Int) < (rl.length : Int)) := by omega
          obtain ⟨x0, x1, x2, x3, x4, x5, x6, x7, x8, x9, x10, x11, x12⟩ := HX.out _ hb
          have HD2 : Hid ((if (parentM P ⟨nm, kind, flags, owner, ⟨ta, tc, tl⟩, ⟨ra, rc, rl⟩, ⟨pa, pc, pl⟩, ⟨fa, fc, fl⟩, ⟨ma, mc, ml⟩, ⟨ya, yc, yl⟩, ⟨sa, sc, sl⟩, ⟨na, nc, nl⟩, p⟩ k != 0) = true then parentM P ⟨nm, kind, flags, owner, ⟨ta, tc, tl⟩, ⟨ra, rc, rl⟩, ⟨pa, pc, pl⟩, ⟨fa, fc, fl⟩, ⟨ma, mc, ml⟩, ⟨ya, yc, yl⟩, ⟨sa, sc, sl⟩, ⟨na, nc, nl⟩, p⟩ k else parT P ⟨nm, kind, flags, owner, ⟨ta, tc, tl⟩, ⟨ra, rc, rl⟩, ⟨pa, pc, pl⟩, ⟨fa, fc, fl⟩, ⟨ma, mc, ml⟩, ⟨ya, yc, yl⟩, ⟨sa, sc, sl⟩, ⟨na, nc, nl⟩, p⟩ (rl.length - (k + 1)) (k + 1)) = res) := by
            have := HD.out
            obtain ⟨m, hm⟩ : ∃ m, rl.length - k = m + 1 := ⟨rl.length - k - 1, by omega⟩
            rw [hm, parT] at this
            rw [show rl.length - (k + 1) = m by omega]
            exact this
          have HC1 := Lib.hid (HPA.out wr k hb hlt)
          clear HD
          generalize parentM P ⟨nm, kind, flags, owner, ⟨ta, tc, tl⟩, ⟨ra, rc, rl⟩, ⟨pa, pc, pl⟩, ⟨fa, fc, fl⟩, ⟨ma, mc, ml⟩, ⟨ya, yc, yl⟩, ⟨sa, sc, sl⟩, ⟨na, nc, nl⟩, p⟩ k = code at *
          cases e : (code != 0) with
          | true =>
            obtain rfl : code = res := by have := HD2.out; rw [e, if_pos rfl] at this; exact this
            go_wp2_with (first | (go_at_call 103; refine HC1.out.mono ?_; rintro e w2 ⟨rfl, hb2⟩; dsimp only))
            go_ret
            exact ⟨rfl, HF.out _ (hb.trans (hb2.mono (by have := hb.size; have := HS.out; omega)))⟩
          | false =>
            have HD3 : Hid (parT P ⟨nm, kind, flags, owner, ⟨ta, tc, tl⟩, ⟨ra, rc, rl⟩, ⟨pa, pc, pl⟩, ⟨fa, fc, fl⟩, ⟨ma, mc, ml⟩, ⟨ya, yc, yl⟩, ⟨sa, sc, sl⟩, ⟨na, nc, nl⟩, p⟩ (rl.length - (k + 1)) (k + 1) = res) := by have := HD2.out; rw [e, if_neg (by simp)] at this; exact this
            go_wp2_with (first | (go_at_call 103; refine HC1.out.mono ?_; rintro e w2 ⟨rfl, hb2⟩; dsimp only))
            have := HLR.out
            go_roundg (rl.length + 1 - (k + 1))
            case measure => have := HN.out; omega
            case rel => exact ⟨k + 1, by omega, by first | go_num | (rw [IntWalk.wrap64_in _ (by omega)]; go_num), rfl, HD3, hb.trans (hb2.mono (by have := hb.size; have := HS.out; omega))⟩
        · obtain rfl : k = rl.length := by omega
          obtain rfl : 0 = res := by have := HD.out; rw [Nat.sub_self, parT] at this; exact this
          go_wp2_with fail
          go_ret
          exact ⟨rfl, HF.out _ hb⟩
end Go.Proofs.YtfbaikijnjafbaaGreatDoor
