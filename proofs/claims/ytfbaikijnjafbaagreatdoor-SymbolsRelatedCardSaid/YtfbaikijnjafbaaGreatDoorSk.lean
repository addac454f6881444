/- parent of package symbols: one of the parents of a class. Conditions: the tables at T. -/
import Derived.Test.YtfbaikijnjafbaaGreatDoorSj
namespace Go.Proofs.YtfbaikijnjafbaaGreatDoor
set_option linter.unusedSimpArgs false
set_option linter.unusedVariables false
open Go.RowKit
set_option maxRecDepth 100000

def parentM (P : Prg) (c : Cls) (place : Nat) : Int := match c.pars.l[place]? with
  | none => 0
  | some x =>
    if ((place : Int) == 0 && x.k == 1) = true then 0
    else if (x.k != 10) = true then 16
    else if inM x.s P.cls.l.length = false then 25
    else match P.cls.l[x.s.toNat]? with
      | none => 0
      | some q =>
        if ((place : Int) == 0 && (c.kind == 1 || q.kind != 0)) = true then 16
        else if (decide (0 < place) && q.kind != 1) = true then 16
        else if hasB q.flags 2 = true then 11
        else if ((q.tps.l.length : Int) != (x.args.l.length : Int)) = true then 4
        else if (c.pars.l.take place).any (fun y => isOfB y x.s) = true then 28
        else if (hasB (bits BinOp.and .i64 c.flags q.flags) 32 || ((place : Int) == 0 && hasB c.flags 64)) = true then 15
        else 0

theorem take_at {α : Type} {ok : Nat → Prop} {w : World} {st by_ : Nat} {cells : α → List Value} {a : Option Addr} {cap : Nat} {l : List α} {n : Nat} (h : SlAt ok w st by_ cells ⟨a, cap, l⟩) : SlAt ok w st by_ cells ⟨a, cap, l.take n⟩ := by
  obtain ⟨h1, h2, h3⟩ := h
  dsimp only at h1 h2
  refine ⟨?_, ?_, ?_⟩
  · show (l.take n).length ≤ cap
    rw [List.length_take]; omega
  · show (l.take n).length * by_ ≤ _
    refine Nat.le_trans (Nat.mul_le_mul_right _ ?_) h2
    rw [List.length_take]; omega
  · rcases h3 with h3 | ⟨b, o, h4, h5, h6⟩
    · left
      show l.take n = []
      rw [show l = [] from h3, List.take_nil]
    · refine .inr ⟨b, o, h4, h5, fun i hi => ?_⟩
      have hi' : i < l.length := by have : i < (l.take n).length := hi; rw [List.length_take] at this; omega
      have := h6 i hi'
      show CellsIn w b (o + i * st) (cells (l.take n)[i])
      rw [List.getElem_take]
      exact this

set_option maxHeartbeats 6400000 in
theorem parent_any (P : Prg) (T : Nat) (c : Cls) (place : Nat) (w : World) (h : TL w T P) (hc : ClsL (fun k => k < T) w c) (hp : place < c.pars.l.length) : Calls Tryz.prog 103 #[ptr T, .agg c.cells.toArray, I place] w (Bof w (I (parentM P c place))) := by
  obtain ⟨b, o, ha, hok, hcs⟩ := sl_at hc.2.2.2.1.1 (by omega)
  have hlen : c.pars.l.length ≤ c.pars.cap ∧ c.pars.l.length ≤ 140737488355328 := by have h1 := hc.2.2.2.1.1.1; have h2 := hc.2.2.2.1.1.2.1; omega
  have hx := tys_cells (hcs place hp)
  have HS := Lib.hid hc.2.2.2.1.1
  generalize hres : parentM P c place = res
  unfold parentM at hres
  rw [List.getElem?_eq_getElem hp] at hres
  dsimp only at hres
  rw [cls_agg]
  generalize hX : c.pars.l[place] = x at *
  clear hX hcs
  obtain ⟨nm, kind, flags, owner, ⟨ta, tc, tl⟩, ⟨ra, rc, rl⟩, ⟨pa, pc, pl⟩, ⟨fa, fc, fl⟩, ⟨ma, mc, ml⟩, ⟨ya, yc, yl⟩, ⟨sa, sc, sl⟩, ⟨na, nc, nl⟩, p⟩ := c
  obtain ⟨xk, xs, xn, xm, ⟨xa, xc, xl⟩⟩ := x
  dsimp only [Ty.k, Ty.s, Ty.nm, Ty.n, Ty.args] at hx hres ha hlen hp HS ⊢
  subst ha
  obtain ⟨t0, t1, t2, t3, t4⟩ := hx
  have HR := Lib.hid hres
  unfold Bof
  have hpi : ((place : Int) < (rl.length : Int)) := by omega
  have hrl := hlen.2
  have hrc : ((place : Int) ≤ (rc : Int)) := by omega
  have hb1 : Below w.heap.size w ((w.alloc (.cells #[.string nm, I kind, I flags, I owner, .slice ta tl.length tc, .slice (some ⟨b, o, none⟩) rl.length rc, .slice pa pl.length pc, .slice fa fl.length fc, .slice ma ml.length mc, .slice ya yl.length yc, .slice sa sl.length sc, .slice na nl.length nc, I p] 54)).alloc (.cells #[I xk, I xs, .string xn, I xm, .slice xa xl.length xc] 60)) := ((Below.refl _ _).alloc (Nat.le_refl _) _).alloc (by simp) _
  have HT : Hid (∀ W, Below (w.heap.size + 2) ((w.alloc (.cells #[.string nm, I kind, I flags, I owner, .slice ta tl.length tc, .slice (some ⟨b, o, none⟩) rl.length rc, .slice pa pl.length pc, .slice fa fl.length fc, .slice ma ml.length mc, .slice ya yl.length yc, .slice sa sl.length sc, .slice na nl.length nc, I p] 54)).alloc (.cells #[I xk, I xs, .string xn, I xm, .slice xa xl.length xc] 60)) W → TL W T P) := Lib.hid fun W hW => (h.below hb1).below (by rw [World.size_alloc, World.size_alloc]; exact hW)
  have HSW : Hid (∀ W, Below (w.heap.size + 2) ((w.alloc (.cells #[.string nm, I kind, I flags, I owner, .slice ta tl.length tc, .slice (some ⟨b, o, none⟩) rl.length rc, .slice pa pl.length pc, .slice fa fl.length fc, .slice ma ml.length mc, .slice ya yl.length yc, .slice sa sl.length sc, .slice na nl.length nc, I p] 54)).alloc (.cells #[I xk, I xs, .string xn, I xm, .slice xa xl.length xc] 60)) W → SlAt (fun k => k < T) W 5 64 Ty.cells ⟨some ⟨b, o, none⟩, rc, rl⟩) := Lib.hid fun W hW => (HS.out.same (w' := ((w.alloc (.cells #[.string nm, I kind, I flags, I owner, .slice ta tl.length tc, .slice (some ⟨b, o, none⟩) rl.length rc, .slice pa pl.length pc, .slice fa fl.length fc, .slice ma ml.length mc, .slice ya yl.length yc, .slice sa sl.length sc, .slice na nl.length nc, I p] 54)).alloc (.cells #[I xk, I xs, .string xn, I xm, .slice xa xl.length xc] 60))) fun k hk => hb1.block k (Nat.lt_trans hk h.lt)).same fun k hk => hW.block k (by have := h.lt; omega)
  have HB := Lib.hid hb1
  have HLT := Lib.hid h.lt
  have HPL := Lib.hid hp
  have hblt : b < w.heap.size := Nat.lt_trans hok h.lt
  have hbne : b ≠ w.heap.size := by omega
  clear h hc hres hb1 hlen HS hp
  go_enter Tryz.func103, Tryz.ntmps103
  go_upto_region 2 with fail
  change Code.wp _ _ _ _ ((w.alloc (.cells #[.string nm, I kind, I flags, I owner, .slice ta tl.length tc, .slice (some ⟨b, o, none⟩) rl.length rc, .slice pa pl.length pc, .slice fa fl.length fc, .slice ma ml.length mc, .slice ya yl.length yc, .slice sa sl.length sc, .slice na nl.length nc, I p] 54)).alloc (.cells #[I xk, I xs, .string xn, I xm, .slice xa xl.length xc] 60))
  have hX1 : ∀ j, ((w.alloc (.cells #[.string nm, I kind, I flags, I owner, .slice ta tl.length tc, .slice (some ⟨b, o, none⟩) rl.length rc, .slice pa pl.length pc, .slice fa fl.length fc, .slice ma ml.length mc, .slice ya yl.length yc, .slice sa sl.length sc, .slice na nl.length nc, I p] 54)).alloc (.cells #[I xk, I xs, .string xn, I xm, .slice xa xl.length xc] 60)).cell? ⟨w.heap.size, j, none⟩ = #[.string nm, I kind, I flags, I owner, .slice ta tl.length tc, .slice (some ⟨b, o, none⟩) rl.length rc, .slice pa pl.length pc, .slice fa fl.length fc, .slice ma ml.length mc, .slice ya yl.length yc, .slice sa sl.length sc, .slice na nl.length nc, I p][j]? := fun j => (((Below.refl (w.heap.size + 1) (w.alloc (.cells #[.string nm, I kind, I flags, I owner, .slice ta tl.length tc, .slice (some ⟨b, o, none⟩) rl.length rc, .slice pa pl.length pc, .slice fa fl.length fc, .slice ma ml.length mc, .slice ya yl.length yc, .slice sa sl.length sc, .slice na nl.length nc, I p] 54))).alloc (by simp) (.cells #[I xk, I xs, .string xn, I xm, .slice xa xl.length xc] 60)).cell (p := ⟨w.heap.size, j, none⟩) (Nat.lt_succ_self _)).trans (World.cell?_alloc_new w _ 54 j)
  have hX2 : ∀ j, ((w.alloc (.cells #[.string nm, I kind, I flags, I owner, .slice ta tl.length tc, .slice (some ⟨b, o, none⟩) rl.length rc, .slice pa pl.length pc, .slice fa fl.length fc, .slice ma ml.length mc, .slice ya yl.length yc, .slice sa sl.length sc, .slice na nl.length nc, I p] 54)).alloc (.cells #[I xk, I xs, .string xn, I xm, .slice xa xl.length xc] 60)).cell? ⟨w.heap.size + 1, j, none⟩ = #[I xk, I xs, .string xn, I xm, .slice xa xl.length xc][j]? := fun j => by have := World.cell?_alloc_new (w.alloc (.cells #[.string nm, I kind, I flags, I owner, .slice ta tl.length tc, .slice (some ⟨b, o, none⟩) rl.length rc, .slice pa pl.length pc, .slice fa fl.length fc, .slice ma ml.length mc, .slice ya yl.length yc, .slice sa sl.length sc, .slice na nl.length nc, I p] 54)) #[I xk, I xs, .string xn, I xm, .slice xa xl.length xc] 60 j; rwa [World.size_alloc] at this
  have HZ := Lib.hid (show ((w.alloc (.cells #[.string nm, I kind, I flags, I owner, .slice ta tl.length tc, .slice (some ⟨b, o, none⟩) rl.length rc, .slice pa pl.length pc, .slice fa fl.length fc, .slice ma ml.length mc, .slice ya yl.length yc, .slice sa sl.length sc, .slice na nl.length nc, I p] 54)).alloc (.cells #[I xk, I xs, .string xn, I xm, .slice xa xl.length xc] 60)).heap.size = w.heap.size + 2 by simp)
  generalize ((w.alloc (.cells #[.string nm, I kind, I flags, I owner, .slice ta tl.length tc, .slice (some ⟨b, o, none⟩) rl.length rc, .slice pa pl.length pc, .slice fa fl.length fc, .slice ma ml.length mc, .slice ya yl.length yc, .slice sa sl.length sc, .slice na nl.length nc, I p] 54)).alloc (.cells #[I xk, I xs, .string xn, I xm, .slice xa xl.length xc] 60)) = w1 at *
  have y1 : w1.cell? ⟨w.heap.size, 1, none⟩ = some (I kind) := hX1 1
  have y2 : w1.cell? ⟨w.heap.size, 2, none⟩ = some (I flags) := hX1 2
  have y5 : w1.cell? ⟨w.heap.size, 5, none⟩ = some (.slice (some ⟨b, o, none⟩) rl.length rc) := hX1 5
  have z0 : w1.cell? ⟨w.heap.size + 1, 0, none⟩ = some (I xk) := hX2 0
  have z1 : w1.cell? ⟨w.heap.size + 1, 1, none⟩ = some (I xs) := hX2 1
  have z4 : w1.cell? ⟨w.heap.size + 1, 4, none⟩ = some (.slice xa xl.length xc) := hX2 4
  clear hX1 hX2 t0 t1 t2 t3 t4
  have HTL := Lib.hid (HT.out w1 (Below.refl _ _))
  obtain ⟨c0, _, _, _, _, _⟩ := HTL.out.cells
  have HF : Hid (∀ W, Below (w.heap.size + 2) w1 W → Below w.heap.size w W) := Lib.hid fun W hW => HB.out.trans (hW.mono (by omega))
  have HZ1 : Hid (sizeM P 1 = P.cls.l.length) := Lib.hid rfl
  have hb : Below (w.heap.size + 2) w1 w1 := Below.refl _ _
  cases e1 : ((place : Int) == 0) with
  | true =>
    cases e2 : (xk == 1) with
    | true =>
      obtain rfl : (0 : Int) = res := by have := HR.out; simp only [e1, e2, Bool.true_or, Bool.or_true, Bool.false_or, Bool.or_false, Bool.not_true, Bool.not_false, Bool.true_and, Bool.false_and, Bool.and_false, Bool.and_true, if_true, if_false, Bool.false_eq_true, Bool.true_eq_false, reduceIte] at this; exact this
      go_wp2_with fail
      go_ret
      exact ⟨rfl, HF.out _ hb⟩
    | false =>
      have HR := Lib.hid (show _ = res by have := HR.out; simp only [e1, e2, Bool.true_or, Bool.or_true, Bool.false_or, Bool.or_false, Bool.not_true, Bool.not_false, Bool.true_and, Bool.false_and, Bool.and_false, Bool.and_true, if_true, if_false, Bool.false_eq_true, Bool.true_eq_false, reduceIte] at this; exact this)
      go_upto_region 4 with fail
      cases e3 : (xk != 10) with
      | true =>
        obtain rfl : (16 : Int) = res := by have := HR.out; simp only [e3, Bool.true_or, Bool.or_true, Bool.false_or, Bool.or_false, Bool.not_true, Bool.not_false, Bool.true_and, Bool.false_and, Bool.and_false, Bool.and_true, if_true, if_false, Bool.false_eq_true, Bool.true_eq_false, reduceIte] at this; exact this
        go_wp2_with fail
        go_ret
        exact ⟨rfl, HF.out _ hb⟩
      | false =>
        have HR := Lib.hid (show _ = res by have := HR.out; simp only [e3, Bool.true_or, Bool.or_true, Bool.false_or, Bool.or_false, Bool.not_true, Bool.not_false, Bool.true_and, Bool.false_and, Bool.and_false, Bool.and_true, if_true, if_false, Bool.false_eq_true, Bool.true_eq_false, reduceIte] at this; exact this)
        go_upto_region 6 with fail
        cases e4 : inM xs P.cls.l.length with
        | false =>
          obtain rfl : (25 : Int) = res := by have := HR.out; simp only [e4, Bool.true_or, Bool.or_true, Bool.false_or, Bool.or_false, Bool.not_true, Bool.not_false, Bool.true_and, Bool.false_and, Bool.and_false, Bool.and_true, if_true, if_false, Bool.false_eq_true, Bool.true_eq_false, reduceIte] at this; exact this
          go_wp2_with (first | (go_at_call 41; refine (has_any P T _ _ _ HTL.out).mono ?_; rintro e w2 ⟨rfl, rfl⟩; dsimp only; rw [HZ1.out, e4]))
          go_ret
          exact ⟨rfl, HF.out _ hb⟩
        | true =>
          have HR := Lib.hid (show _ = res by have := HR.out; simp only [e4, Bool.true_or, Bool.or_true, Bool.false_or, Bool.or_false, Bool.not_true, Bool.not_false, Bool.true_and, Bool.false_and, Bool.and_false, Bool.and_true, if_true, if_false, Bool.false_eq_true, Bool.true_eq_false, reduceIte] at this; exact this)
          go_upto_region 8 with (first | (go_at_call 41; refine (has_any P T _ _ _ HTL.out).mono ?_; rintro e w2 ⟨rfl, rfl⟩; dsimp only; rw [HZ1.out, e4]))
          obtain ⟨y, rfl, hyn, hyl⟩ := inM_at e4
          obtain ⟨b2, o2, ha2, hok2, hcs2⟩ := sl_at HTL.out.prg.cls (by omega)
          have dy : ((y : Int) < (P.cls.l.length : Int)) := by omega
          have hbig : P.cls.l.length ≤ 140737488355328 := by have h1 := HTL.out.prg.cls.1; have h2 := HTL.out.prg.cls.2.1; omega
          obtain ⟨q0, q1, q2, q3, q4, q5, q6, q7, q8, q9, q10, q11, q12⟩ := cls_cells0 (hcs2 y hyl)
          rw [ha2] at c0
          rw [hyn, List.getElem?_eq_getElem hyl] at HR
          clear hcs2 ha2 hyn
          generalize P.cls.l[y] = q at *
          obtain ⟨qnm, qkind, qflags, qowner, ⟨qta, qtc, qtl⟩, ⟨qra, qrc, qrl⟩, ⟨qpa, qpc, qpl⟩, ⟨qfa, qfc, qfl⟩, ⟨qma, qmc, qml⟩, ⟨qya, qyc, qyl⟩, ⟨qsa, qsc, qsl⟩, ⟨qna, qnc, qnl⟩, qp⟩ := q
          unfold Sl.v at q4 q5 q6 q7 q8 q9 q10 q11
          dsimp only at HR q0 q1 q2 q3 q4 q5 q6 q7 q8 q9 q10 q11 q12
          have n1 : w.heap.size + 1 < w1.heap.size := by have := HZ.out; omega
          have n2 : T < w1.heap.size := HTL.out.lt
          have n3 : b2 < w1.heap.size := Nat.lt_trans hok2 HTL.out.lt
          have n4 : w.heap.size + 1 ≠ w1.heap.size := by omega
          have n5 : T ≠ w1.heap.size := by omega
          have n6 : b2 ≠ w1.heap.size := by omega
          go_region
          obtain ⟨wq, hwq⟩ : ∃ wq, (w1.alloc (.cells #[.string qnm, I qkind, I qflags, I qowner, .slice qta qtl.length qtc, .slice qra qrl.length qrc, .slice qpa qpl.length qpc, .slice qfa qfl.length qfc, .slice qma qml.length qmc, .slice qya qyl.length qyc, .slice qsa qsl.length qsc, .slice qna qnl.length qnc, I qp] 54)).drew = wq := ⟨_, rfl⟩
          have hbq : Below w1.heap.size w1 wq := by rw [← hwq]; exact ((Below.refl _ w1).alloc (Nat.le_refl _) _).drew
          have hqc : ∀ j, wq.cell? ⟨w1.heap.size, j, none⟩ = #[.string qnm, I qkind, I qflags, I qowner, .slice qta qtl.length qtc, .slice qra qrl.length qrc, .slice qpa qpl.length qpc, .slice qfa qfl.length qfc, .slice qma qml.length qmc, .slice qya qyl.length qyc, .slice qsa qsl.length qsc, .slice qna qnl.length qnc, I qp][j]? := fun j => by rw [← hwq]; exact World.cell?_alloc_new w1 _ 54 j
          rw [show (w1.alloc (Obj.cells #[Value.string qnm, Value.int IntKind.i64 qkind, Value.int IntKind.i64 qflags, Value.int IntKind.i64 qowner, Value.slice qta qtl.length qtc, Value.slice qra qrl.length qrc, Value.slice qpa qpl.length qpc, Value.slice qfa qfl.length qfc, Value.slice qma qml.length qmc, Value.slice qya qyl.length qyc, Value.slice qsa qsl.length qsc, Value.slice qna qnl.length qnc, Value.int IntKind.i64 qp] 54)).drew = wq from hwq]
          have v1 : wq.cell? ⟨w1.heap.size, 1, none⟩ = some (I qkind) := hqc 1
          have v2 : wq.cell? ⟨w1.heap.size, 2, none⟩ = some (I qflags) := hqc 2
          have v4 : wq.cell? ⟨w1.heap.size, 4, none⟩ = some (.slice qta qtl.length qtc) := hqc 4
          have n0 : w.heap.size < w1.heap.size := by omega
          replace y1 := (hbq.cell (p := ⟨w.heap.size, 1, none⟩) n0).trans y1
          replace y2 := (hbq.cell (p := ⟨w.heap.size, 2, none⟩) n0).trans y2
          replace y5 := (hbq.cell (p := ⟨w.heap.size, 5, none⟩) n0).trans y5
          replace z1 := (hbq.cell (p := ⟨w.heap.size + 1, 1, none⟩) n1).trans z1
          replace z4 := (hbq.cell (p := ⟨w.heap.size + 1, 4, none⟩) n1).trans z4
          replace hb := hb.trans (hbq.mono (show w.heap.size + 2 ≤ w1.heap.size by omega))
          have HCP := Lib.hid (conP_any (l := rl.take place) (ok := fun k => k < T) (some ⟨b, o, none⟩) rc (w.heap.size + 1) y wq (take_at (HSW.out wq hb)) (fun k hk => Nat.lt_trans hk (HT.out wq hb).lt) z1 (Nat.lt_of_lt_of_le n1 hbq.size))
          rw [show (rl.take place).length = place from by rw [List.length_take]; omega] at HCP
          unfold Bof at HCP
          clear hwq hqc n1 n2 n3 n4 n5 n6 n0 z0 c0 q0 q1 q2 q3 q4 q5 q6 q7 q8 q9 q10 q11 q12 dy hok hok2 e4 e3
          have n0' : w.heap.size < w1.heap.size := by have := HZ.out; omega
          have hwqs : w1.heap.size < wq.heap.size := (cell_spot v1).2
          have p0 : decide ((0 : Int) < (place : Int)) = false := by have := eq_of_beq e1; exact decide_eq_false (by omega)
          have p1 : decide (0 < place) = false := by have := eq_of_beq e1; exact decide_eq_false (by omega)
          cases e5 : (kind == 1) with
          | true =>
            obtain rfl : (16 : Int) = res := by have := HR.out; simp only [e1, e5, Bool.true_or, Bool.or_true, Bool.false_or, Bool.or_false, Bool.not_true, Bool.not_false, Bool.true_and, Bool.false_and, Bool.and_false, Bool.and_true, if_true, if_false, Bool.false_eq_true, Bool.true_eq_false, reduceIte] at this; exact this
            go_wp2_with fail
            go_ret
            exact ⟨rfl, HF.out _ hb⟩
          | false =>
            cases e6 : (qkind != 0) with
            | true =>
              obtain rfl : (16 : Int) = res := by have := HR.out; simp only [e1, e5, e6, Bool.true_or, Bool.or_true, Bool.false_or, Bool.or_false, Bool.not_true, Bool.not_false, Bool.true_and, Bool.false_and, Bool.and_false, Bool.and_true, if_true, if_false, Bool.false_eq_true, Bool.true_eq_false, reduceIte] at this; exact this
              go_wp2_with fail
              go_ret
              exact ⟨rfl, HF.out _ hb⟩
            | false =>
              have HR := Lib.hid (show _ = res by have := HR.out; simp only [e1, e5, e6, p1, Bool.true_or, Bool.or_true, Bool.false_or, Bool.or_false, Bool.not_true, Bool.not_false, Bool.true_and, Bool.false_and, Bool.and_false, Bool.and_true, if_true, if_false, Bool.false_eq_true, Bool.true_eq_false, reduceIte] at this; exact this)
              go_upto_region 13 with fail
              cases e8 : hasB qflags 2 with
              | true =>
                obtain rfl : (11 : Int) = res := by have := HR.out; simp only [e8, Bool.true_or, Bool.or_true, Bool.false_or, Bool.or_false, Bool.not_true, Bool.not_false, Bool.true_and, Bool.false_and, Bool.and_false, Bool.and_true, if_true, if_false, Bool.false_eq_true, Bool.true_eq_false, reduceIte] at this; exact this
                go_wp2_with (first | (go_at_call 102; refine (hasAny_any _ _ _).mono ?_; rintro e w2 ⟨rfl, rfl⟩; dsimp only; (first | rw [e8])))
                go_ret
                exact ⟨rfl, HF.out _ hb⟩
              | false =>
                have HR := Lib.hid (show _ = res by have := HR.out; simp only [e8, Bool.true_or, Bool.or_true, Bool.false_or, Bool.or_false, Bool.not_true, Bool.not_false, Bool.true_and, Bool.false_and, Bool.and_false, Bool.and_true, if_true, if_false, Bool.false_eq_true, Bool.true_eq_false, reduceIte] at this; exact this)
                go_upto_region 15 with (first | (go_at_call 102; refine (hasAny_any _ _ _).mono ?_; rintro e w2 ⟨rfl, rfl⟩; dsimp only; (first | rw [e8])))
                cases e9 : ((qtl.length : Int) != (xl.length : Int)) with
                | true =>
                  obtain rfl : (4 : Int) = res := by have := HR.out; simp only [e9, Bool.true_or, Bool.or_true, Bool.false_or, Bool.or_false, Bool.not_true, Bool.not_false, Bool.true_and, Bool.false_and, Bool.and_false, Bool.and_true, if_true, if_false, Bool.false_eq_true, Bool.true_eq_false, reduceIte] at this; exact this
                  go_wp2_with fail
                  go_ret
                  exact ⟨rfl, HF.out _ hb⟩
                | false =>
                  have HR := Lib.hid (show _ = res by have := HR.out; simp only [e9, Bool.true_or, Bool.or_true, Bool.false_or, Bool.or_false, Bool.not_true, Bool.not_false, Bool.true_and, Bool.false_and, Bool.and_false, Bool.and_true, if_true, if_false, Bool.false_eq_true, Bool.true_eq_false, reduceIte] at this; exact this)
                  go_upto_region 17 with fail
                  cases e10 : (rl.take place).any (fun t => isOfB t y) with
                  | true =>
                    obtain rfl : (28 : Int) = res := by have := HR.out; simp only [e10, Bool.true_or, Bool.or_true, Bool.false_or, Bool.or_false, Bool.not_true, Bool.not_false, Bool.true_and, Bool.false_and, Bool.and_false, Bool.and_true, if_true, if_false, Bool.false_eq_true, Bool.true_eq_false, reduceIte] at this; exact this
                    go_wp2_with (first | (go_at_call 54; refine HCP.out.mono ?_; rintro e w2 ⟨rfl, hb2⟩; dsimp only; rw [e10]; replace y1 := (hb2.cell (p := ⟨w.heap.size, 1, none⟩) (Nat.lt_of_lt_of_le n0' hbq.size)).trans y1; replace y2 := (hb2.cell (p := ⟨w.heap.size, 2, none⟩) (Nat.lt_of_lt_of_le n0' hbq.size)).trans y2; replace v2 := (hb2.cell (p := ⟨w1.heap.size, 2, none⟩) hwqs).trans v2; replace hb := hb.trans (hb2.mono (by have := hbq.size; have := HZ.out; omega))))
                    go_ret
                    exact ⟨rfl, HF.out _ hb⟩
                  | false =>
                    have HR := Lib.hid (show _ = res by have := HR.out; simp only [e10, Bool.true_or, Bool.or_true, Bool.false_or, Bool.or_false, Bool.not_true, Bool.not_false, Bool.true_and, Bool.false_and, Bool.and_false, Bool.and_true, if_true, if_false, Bool.false_eq_true, Bool.true_eq_false, reduceIte] at this; exact this)
                    go_upto_region 19 with (first | (go_at_call 54; refine HCP.out.mono ?_; rintro e w2 ⟨rfl, hb2⟩; dsimp only; rw [e10]; replace y1 := (hb2.cell (p := ⟨w.heap.size, 1, none⟩) (Nat.lt_of_lt_of_le n0' hbq.size)).trans y1; replace y2 := (hb2.cell (p := ⟨w.heap.size, 2, none⟩) (Nat.lt_of_lt_of_le n0' hbq.size)).trans y2; replace v2 := (hb2.cell (p := ⟨w1.heap.size, 2, none⟩) hwqs).trans v2; replace hb := hb.trans (hb2.mono (by have := hbq.size; have := HZ.out; omega))))
                    cases e11 : hasB (bits BinOp.and .i64 flags qflags) 32 with
                    | true =>
                      obtain rfl : (15 : Int) = res := by have := HR.out; simp only [e11, Bool.true_or, Bool.or_true, Bool.false_or, Bool.or_false, Bool.not_true, Bool.not_false, Bool.true_and, Bool.false_and, Bool.and_false, Bool.and_true, if_true, if_false, Bool.false_eq_true, Bool.true_eq_false, reduceIte] at this; exact this
                      go_wp2_with (first | (go_at_call 102; refine (hasAny_any _ _ _).mono ?_; rintro e w2 ⟨rfl, rfl⟩; dsimp only; (first | rw [e11])))
                      go_ret
                      exact ⟨rfl, HF.out _ hb⟩
                    | false =>
                      cases e12 : hasB flags 64 with
                      | true =>
                        obtain rfl : (15 : Int) = res := by have := HR.out; simp only [e11, e1, e12, Bool.true_or, Bool.or_true, Bool.false_or, Bool.or_false, Bool.not_true, Bool.not_false, Bool.true_and, Bool.false_and, Bool.and_false, Bool.and_true, if_true, if_false, Bool.false_eq_true, Bool.true_eq_false, reduceIte] at this; exact this
                        go_wp2_with (first | (go_at_call 102; refine (hasAny_any _ _ _).mono ?_; rintro e w2 ⟨rfl, rfl⟩; dsimp only; (first | rw [e11] | rw [e12])))
                        go_ret
                        exact ⟨rfl, HF.out _ hb⟩
                      | false =>
                        obtain rfl : (0 : Int) = res := by have := HR.out; simp only [e11, e1, e12, Bool.true_or, Bool.or_true, Bool.false_or, Bool.or_false, Bool.not_true, Bool.not_false, Bool.true_and, Bool.false_and, Bool.and_false, Bool.and_true, if_true, if_false, Bool.false_eq_true, Bool.true_eq_false, reduceIte] at this; exact this
                        go_wp2_with (first | (go_at_call 102; refine (hasAny_any _ _ _).mono ?_; rintro e w2 ⟨rfl, rfl⟩; dsimp only; (first | rw [e11] | rw [e12])))
                        go_ret
                        exact ⟨rfl, HF.out _ hb⟩
  | false =>
    have HR := Lib.hid (show _ = res by have := HR.out; simp only [e1, Bool.true_or, Bool.or_true, Bool.false_or, Bool.or_false, Bool.not_true, Bool.not_false, Bool.true_and, Bool.false_and, Bool.and_false, Bool.and_true, if_true, if_false, Bool.false_eq_true, Bool.true_eq_false, reduceIte] at this; exact this)
    go_upto_region 4 with fail
    cases e3 : (xk != 10) with
    | true =>
      obtain rfl : (16 : Int) = res := by have := HR.out; simp only [e3, Bool.true_or, Bool.or_true, Bool.false_or, Bool.or_false, Bool.not_true, Bool.not_false, Bool.true_and, Bool.false_and, Bool.and_false, Bool.and_true, if_true, if_false, Bool.false_eq_true, Bool.true_eq_false, reduceIte] at this; exact this
      go_wp2_with fail
      go_ret
      exact ⟨rfl, HF.out _ hb⟩
    | false =>
      have HR := Lib.hid (show _ = res by have := HR.out; simp only [e3, Bool.true_or, Bool.or_true, Bool.false_or, Bool.or_false, Bool.not_true, Bool.not_false, Bool.true_and, Bool.false_and, Bool.and_false, Bool.and_true, if_true, if_false, Bool.false_eq_true, Bool.true_eq_false, reduceIte] at this; exact this)
      go_upto_region 6 with fail
      cases e4 : inM xs P.cls.l.length with
      | false =>
        obtain rfl : (25 : Int) = res := by have := HR.out; simp only [e4, Bool.true_or, Bool.or_true, Bool.false_or, Bool.or_false, Bool.not_true, Bool.not_false, Bool.true_and, Bool.false_and, Bool.and_false, Bool.and_true, if_true, if_false, Bool.false_eq_true, Bool.true_eq_false, reduceIte] at this; exact this
        go_wp2_with (first | (go_at_call 41; refine (has_any P T _ _ _ HTL.out).mono ?_; rintro e w2 ⟨rfl, rfl⟩; dsimp only; rw [HZ1.out, e4]))
        go_ret
        exact ⟨rfl, HF.out _ hb⟩
      | true =>
        have HR := Lib.hid (show _ = res by have := HR.out; simp only [e4, Bool.true_or, Bool.or_true, Bool.false_or, Bool.or_false, Bool.not_true, Bool.not_false, Bool.true_and, Bool.false_and, Bool.and_false, Bool.and_true, if_true, if_false, Bool.false_eq_true, Bool.true_eq_false, reduceIte] at this; exact this)
        go_upto_region 8 with (first | (go_at_call 41; refine (has_any P T _ _ _ HTL.out).mono ?_; rintro e w2 ⟨rfl, rfl⟩; dsimp only; rw [HZ1.out, e4]))
        obtain ⟨y, rfl, hyn, hyl⟩ := inM_at e4
        obtain ⟨b2, o2, ha2, hok2, hcs2⟩ := sl_at HTL.out.prg.cls (by omega)
        have dy : ((y : Int) < (P.cls.l.length : Int)) := by omega
        have hbig : P.cls.l.length ≤ 140737488355328 := by have h1 := HTL.out.prg.cls.1; have h2 := HTL.out.prg.cls.2.1; omega
        obtain ⟨q0, q1, q2, q3, q4, q5, q6, q7, q8, q9, q10, q11, q12⟩ := cls_cells0 (hcs2 y hyl)
        rw [ha2] at c0
        rw [hyn, List.getElem?_eq_getElem hyl] at HR
        clear hcs2 ha2 hyn
        generalize P.cls.l[y] = q at *
        obtain ⟨qnm, qkind, qflags, qowner, ⟨qta, qtc, qtl⟩, ⟨qra, qrc, qrl⟩, ⟨qpa, qpc, qpl⟩, ⟨qfa, qfc, qfl⟩, ⟨qma, qmc, qml⟩, ⟨qya, qyc, qyl⟩, ⟨qsa, qsc, qsl⟩, ⟨qna, qnc, qnl⟩, qp⟩ := q
        unfold Sl.v at q4 q5 q6 q7 q8 q9 q10 q11
        dsimp only at HR q0 q1 q2 q3 q4 q5 q6 q7 q8 q9 q10 q11 q12
        have n1 : w.heap.size + 1 < w1.heap.size := by have := HZ.out; omega
        have n2 : T < w1.heap.size := HTL.out.lt
        have n3 : b2 < w1.heap.size := Nat.lt_trans hok2 HTL.out.lt
        have n4 : w.heap.size + 1 ≠ w1.heap.size := by omega
        have n5 : T ≠ w1.heap.size := by omega
        have n6 : b2 ≠ w1.heap.size := by omega
        go_region
        obtain ⟨wq, hwq⟩ : ∃ wq, (w1.alloc (.cells #[.string qnm, I qkind, I qflags, I qowner, .slice qta qtl.length qtc, .slice qra qrl.length qrc, .slice qpa qpl.length qpc, .slice qfa qfl.length qfc, .slice qma qml.length qmc, .slice qya qyl.length qyc, .slice qsa qsl.length qsc, .slice qna qnl.length qnc, I qp] 54)).drew = wq := ⟨_, rfl⟩
        have hbq : Below w1.heap.size w1 wq := by rw [← hwq]; exact ((Below.refl _ w1).alloc (Nat.le_refl _) _).drew
        have hqc : ∀ j, wq.cell? ⟨w1.heap.size, j, none⟩ = #[.string qnm, I qkind, I qflags, I qowner, .slice qta qtl.length qtc, .slice qra qrl.length qrc, .slice qpa qpl.length qpc, .slice qfa qfl.length qfc, .slice qma qml.length qmc, .slice qya qyl.length qyc, .slice qsa qsl.length qsc, .slice qna qnl.length qnc, I qp][j]? := fun j => by rw [← hwq]; exact World.cell?_alloc_new w1 _ 54 j
        rw [show (w1.alloc (Obj.cells #[Value.string qnm, Value.int IntKind.i64 qkind, Value.int IntKind.i64 qflags, Value.int IntKind.i64 qowner, Value.slice qta qtl.length qtc, Value.slice qra qrl.length qrc, Value.slice qpa qpl.length qpc, Value.slice qfa qfl.length qfc, Value.slice qma qml.length qmc, Value.slice qya qyl.length qyc, Value.slice qsa qsl.length qsc, Value.slice qna qnl.length qnc, Value.int IntKind.i64 qp] 54)).drew = wq from hwq]
        have v1 : wq.cell? ⟨w1.heap.size, 1, none⟩ = some (I qkind) := hqc 1
        have v2 : wq.cell? ⟨w1.heap.size, 2, none⟩ = some (I qflags) := hqc 2
        have v4 : wq.cell? ⟨w1.heap.size, 4, none⟩ = some (.slice qta qtl.length qtc) := hqc 4
        have n0 : w.heap.size < w1.heap.size := by omega
        replace y1 := (hbq.cell (p := ⟨w.heap.size, 1, none⟩) n0).trans y1
        replace y2 := (hbq.cell (p := ⟨w.heap.size, 2, none⟩) n0).trans y2
        replace y5 := (hbq.cell (p := ⟨w.heap.size, 5, none⟩) n0).trans y5
        replace z1 := (hbq.cell (p := ⟨w.heap.size + 1, 1, none⟩) n1).trans z1
        replace z4 := (hbq.cell (p := ⟨w.heap.size + 1, 4, none⟩) n1).trans z4
        replace hb := hb.trans (hbq.mono (show w.heap.size + 2 ≤ w1.heap.size by omega))
        have HCP := Lib.hid (conP_any (l := rl.take place) (ok := fun k => k < T) (some ⟨b, o, none⟩) rc (w.heap.size + 1) y wq (take_at (HSW.out wq hb)) (fun k hk => Nat.lt_trans hk (HT.out wq hb).lt) z1 (Nat.lt_of_lt_of_le n1 hbq.size))
        rw [show (rl.take place).length = place from by rw [List.length_take]; omega] at HCP
        unfold Bof at HCP
        clear hwq hqc n1 n2 n3 n4 n5 n6 n0 z0 c0 q0 q1 q2 q3 q4 q5 q6 q7 q8 q9 q10 q11 q12 dy hok hok2 e4 e3
        have n0' : w.heap.size < w1.heap.size := by have := HZ.out; omega
        have hwqs : w1.heap.size < wq.heap.size := (cell_spot v1).2
        have p0 : decide ((0 : Int) < (place : Int)) = true := by have hne : ¬ ((place : Int) = 0) := (by intro h; rw [h] at e1; cases e1); exact decide_eq_true (by omega)
        have p1 : decide (0 < place) = true := by have := of_decide_eq_true p0; exact decide_eq_true (by omega)
        cases e7 : (qkind != 1) with
        | true =>
          obtain rfl : (16 : Int) = res := by have := HR.out; simp only [e1, p1, e7, Bool.true_or, Bool.or_true, Bool.false_or, Bool.or_false, Bool.not_true, Bool.not_false, Bool.true_and, Bool.false_and, Bool.and_false, Bool.and_true, if_true, if_false, Bool.false_eq_true, Bool.true_eq_false, reduceIte] at this; exact this
          go_wp2_with fail
          go_ret
          exact ⟨rfl, HF.out _ hb⟩
        | false =>
          have HR := Lib.hid (show _ = res by have := HR.out; simp only [e1, p1, e7, Bool.true_or, Bool.or_true, Bool.false_or, Bool.or_false, Bool.not_true, Bool.not_false, Bool.true_and, Bool.false_and, Bool.and_false, Bool.and_true, if_true, if_false, Bool.false_eq_true, Bool.true_eq_false, reduceIte] at this; exact this)
          go_upto_region 13 with fail
          cases e8 : hasB qflags 2 with
          | true =>
            obtain rfl : (11 : Int) = res := by have := HR.out; simp only [e8, Bool.true_or, Bool.or_true, Bool.false_or, Bool.or_false, Bool.not_true, Bool.not_false, Bool.true_and, Bool.false_and, Bool.and_false, Bool.and_true, if_true, if_false, Bool.false_eq_true, Bool.true_eq_false, reduceIte] at this; exact this
            go_wp2_with (first | (go_at_call 102; refine (hasAny_any _ _ _).mono ?_; rintro e w2 ⟨rfl, rfl⟩; dsimp only; (first | rw [e8])))
            go_ret
            exact ⟨rfl, HF.out _ hb⟩
          | false =>
            have HR := Lib.hid (show _ = res by have := HR.out; simp only [e8, Bool.true_or, Bool.or_true, Bool.false_or, Bool.or_false, Bool.not_true, Bool.not_false, Bool.true_and, Bool.false_and, Bool.and_false, Bool.and_true, if_true, if_false, Bool.false_eq_true, Bool.true_eq_false, reduceIte] at this; exact this)
            go_upto_region 15 with (first | (go_at_call 102; refine (hasAny_any _ _ _).mono ?_; rintro e w2 ⟨rfl, rfl⟩; dsimp only; (first | rw [e8])))
            cases e9 : ((qtl.length : Int) != (xl.length : Int)) with
            | true =>
              obtain rfl : (4 : Int) = res := by have := HR.out; simp only [e9, Bool.true_or, Bool.or_true, Bool.false_or, Bool.or_false, Bool.not_true, Bool.not_false, Bool.true_and, Bool.false_and, Bool.and_false, Bool.and_true, if_true, if_false, Bool.false_eq_true, Bool.true_eq_false, reduceIte] at this; exact this
              go_wp2_with fail
              go_ret
              exact ⟨rfl, HF.out _ hb⟩
            | false =>
              have HR := Lib.hid (show _ = res by have := HR.out; simp only [e9, Bool.true_or, Bool.or_true, Bool.false_or, Bool.or_false, Bool.not_true, Bool.not_false, Bool.true_and, Bool.false_and, Bool.and_false, Bool.and_true, if_true, if_false, Bool.false_eq_true, Bool.true_eq_false, reduceIte] at this; exact this)
              go_upto_region 17 with fail
              cases e10 : (rl.take place).any (fun t => isOfB t y) with
              | true =>
                obtain rfl : (28 : Int) = res := by have := HR.out; simp only [e10, Bool.true_or, Bool.or_true, Bool.false_or, Bool.or_false, Bool.not_true, Bool.not_false, Bool.true_and, Bool.false_and, Bool.and_false, Bool.and_true, if_true, if_false, Bool.false_eq_true, Bool.true_eq_false, reduceIte] at this; exact this
                go_wp2_with (first | (go_at_call 54; refine HCP.out.mono ?_; rintro e w2 ⟨rfl, hb2⟩; dsimp only; rw [e10]; replace y1 := (hb2.cell (p := ⟨w.heap.size, 1, none⟩) (Nat.lt_of_lt_of_le n0' hbq.size)).trans y1; replace y2 := (hb2.cell (p := ⟨w.heap.size, 2, none⟩) (Nat.lt_of_lt_of_le n0' hbq.size)).trans y2; replace v2 := (hb2.cell (p := ⟨w1.heap.size, 2, none⟩) hwqs).trans v2; replace hb := hb.trans (hb2.mono (by have := hbq.size; have := HZ.out; omega))))
                go_ret
                exact ⟨rfl, HF.out _ hb⟩
              | false =>
                have HR := Lib.hid (show _ = res by have := HR.out; simp only [e10, Bool.true_or, Bool.or_true, Bool.false_or, Bool.or_false, Bool.not_true, Bool.not_false, Bool.true_and, Bool.false_and, Bool.and_false, Bool.and_true, if_true, if_false, Bool.false_eq_true, Bool.true_eq_false, reduceIte] at this; exact this)
                go_upto_region 19 with (first | (go_at_call 54; refine HCP.out.mono ?_; rintro e w2 ⟨rfl, hb2⟩; dsimp only; rw [e10]; replace y1 := (hb2.cell (p := ⟨w.heap.size, 1, none⟩) (Nat.lt_of_lt_of_le n0' hbq.size)).trans y1; replace y2 := (hb2.cell (p := ⟨w.heap.size, 2, none⟩) (Nat.lt_of_lt_of_le n0' hbq.size)).trans y2; replace v2 := (hb2.cell (p := ⟨w1.heap.size, 2, none⟩) hwqs).trans v2; replace hb := hb.trans (hb2.mono (by have := hbq.size; have := HZ.out; omega))))
                cases e11 : hasB (bits BinOp.and .i64 flags qflags) 32 with
                | true =>
                  obtain rfl : (15 : Int) = res := by have := HR.out; simp only [e11, Bool.true_or, Bool.or_true, Bool.false_or, Bool.or_false, Bool.not_true, Bool.not_false, Bool.true_and, Bool.false_and, Bool.and_false, Bool.and_true, if_true, if_false, Bool.false_eq_true, Bool.true_eq_false, reduceIte] at this; exact this
                  go_wp2_with (first | (go_at_call 102; refine (hasAny_any _ _ _).mono ?_; rintro e w2 ⟨rfl, rfl⟩; dsimp only; (first | rw [e11])))
                  go_ret
                  exact ⟨rfl, HF.out _ hb⟩
                | false =>
                  obtain rfl : (0 : Int) = res := by have := HR.out; simp only [e11, e1, Bool.true_or, Bool.or_true, Bool.false_or, Bool.or_false, Bool.not_true, Bool.not_false, Bool.true_and, Bool.false_and, Bool.and_false, Bool.and_true, if_true, if_false, Bool.false_eq_true, Bool.true_eq_false, reduceIte] at this; exact this
                  go_wp2_with (first | (go_at_call 102; refine (hasAny_any _ _ _).mono ?_; rintro e w2 ⟨rfl, rfl⟩; dsimp only; (first | rw [e11])))
                  go_ret
                  exact ⟨rfl, HF.out _ hb⟩
end Go.Proofs.YtfbaikijnjafbaaGreatDoor
