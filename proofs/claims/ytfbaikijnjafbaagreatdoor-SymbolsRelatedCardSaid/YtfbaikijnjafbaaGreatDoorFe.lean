/- The contract of Few: it ends, with yes or no; nothing that was there has turned. -/
import Derived.Test.YtfbaikijnjafbaaGreatDoorLo
namespace Go.Proofs.YtfbaikijnjafbaaGreatDoor
set_option linter.unusedSimpArgs false
set_option linter.unusedVariables false
open Go.RowKit
set_option maxRecDepth 100000

theorem cls_cells {w : World} {b o : Nat} {T : Cls} (h : CellsIn w b o T.cells) :
    w.cell? ⟨b, o, none⟩ = some (.string T.nm) ∧ w.cell? ⟨b, o + 1, none⟩ = some (I T.kind) ∧ w.cell? ⟨b, o + 2, none⟩ = some (I T.flags) ∧ w.cell? ⟨b, o + 3, none⟩ = some (I T.owner) ∧ w.cell? ⟨b, o + 4, none⟩ = some T.tps.v ∧
    w.cell? ⟨b, o + 5, none⟩ = some T.pars.v ∧ w.cell? ⟨b, o + 6, none⟩ = some T.prms.v ∧ w.cell? ⟨b, o + 7, none⟩ = some T.flds.v ∧ w.cell? ⟨b, o + 8, none⟩ = some T.mths.v ∧ w.cell? ⟨b, o + 9, none⟩ = some T.tys.v ∧
    w.cell? ⟨b, o + 10, none⟩ = some T.sups.v ∧ w.cell? ⟨b, o + 11, none⟩ = some T.ini.v ∧ w.cell? ⟨b, o + 12, none⟩ = some (I T.p) :=
  ⟨h 0 (by simp [Cls.cells]), h 1 (by simp [Cls.cells]), h 2 (by simp [Cls.cells]), h 3 (by simp [Cls.cells]), h 4 (by simp [Cls.cells]), h 5 (by simp [Cls.cells]), h 6 (by simp [Cls.cells]), h 7 (by simp [Cls.cells]), h 8 (by simp [Cls.cells]), h 9 (by simp [Cls.cells]), h 10 (by simp [Cls.cells]), h 11 (by simp [Cls.cells]), h 12 (by simp [Cls.cells])⟩

theorem mth_cells {w : World} {b o : Nat} {T : Mth} (h : CellsIn w b o T.cells) :
    w.cell? ⟨b, o, none⟩ = some (.string T.nm) ∧
    w.cell? ⟨b, o + 1, none⟩ = some (I T.owner) ∧
    w.cell? ⟨b, o + 2, none⟩ = some (I T.flags) ∧
    w.cell? ⟨b, o + 3, none⟩ = some T.tps.v ∧
    w.cell? ⟨b, o + 4, none⟩ = some (I T.params) ∧
    w.cell? ⟨b, o + 5, none⟩ = some T.locs.v ∧
    w.cell? ⟨b, o + 6, none⟩ = some (I T.res.k) ∧
    w.cell? ⟨b, o + 7, none⟩ = some (I T.res.s) ∧
    w.cell? ⟨b, o + 8, none⟩ = some (.string T.res.nm) ∧
    w.cell? ⟨b, o + 9, none⟩ = some (I T.res.n) ∧
    w.cell? ⟨b, o + 10, none⟩ = some T.res.args.v ∧
    w.cell? ⟨b, o + 11, none⟩ = some (.pointer (T.body.map (·.1))) ∧
    w.cell? ⟨b, o + 12, none⟩ = some (I T.p) :=
  ⟨h 0 (by simp [Mth.cells]), h 1 (by simp [Mth.cells]), h 2 (by simp [Mth.cells]), h 3 (by simp [Mth.cells]), h 4 (by simp [Mth.cells]), h 5 (by simp [Mth.cells]), h 6 (by simp [Mth.cells]), h 7 (by simp [Mth.cells]), h 8 (by simp [Mth.cells]), h 9 (by simp [Mth.cells]), h 10 (by simp [Mth.cells]), h 11 (by simp [Mth.cells]), h 12 (by simp [Mth.cells])⟩
theorem fld_cells {w : World} {b o : Nat} {T : Fld} (h : CellsIn w b o T.cells) :
    w.cell? ⟨b, o, none⟩ = some (.string T.nm) ∧
    w.cell? ⟨b, o + 1, none⟩ = some (I T.owner) ∧
    w.cell? ⟨b, o + 2, none⟩ = some (I T.flags) ∧
    w.cell? ⟨b, o + 3, none⟩ = some (I T.ty.k) ∧
    w.cell? ⟨b, o + 4, none⟩ = some (I T.ty.s) ∧
    w.cell? ⟨b, o + 5, none⟩ = some (.string T.ty.nm) ∧
    w.cell? ⟨b, o + 6, none⟩ = some (I T.ty.n) ∧
    w.cell? ⟨b, o + 7, none⟩ = some T.ty.args.v ∧
    w.cell? ⟨b, o + 8, none⟩ = some (I T.p) :=
  ⟨h 0 (by simp [Fld.cells]), h 1 (by simp [Fld.cells]), h 2 (by simp [Fld.cells]), h 3 (by simp [Fld.cells]), h 4 (by simp [Fld.cells]), h 5 (by simp [Fld.cells]), h 6 (by simp [Fld.cells]), h 7 (by simp [Fld.cells]), h 8 (by simp [Fld.cells])⟩
theorem tpm_cells {w : World} {b o : Nat} {T : Tpm} (h : CellsIn w b o T.cells) :
    w.cell? ⟨b, o, none⟩ = some (.string T.nm) ∧
    w.cell? ⟨b, o + 1, none⟩ = some (I T.cls) ∧
    w.cell? ⟨b, o + 2, none⟩ = some (I T.mth) ∧
    w.cell? ⟨b, o + 3, none⟩ = some (I T.var) ∧
    w.cell? ⟨b, o + 4, none⟩ = some (I T.ar) ∧
    w.cell? ⟨b, o + 5, none⟩ = some (I T.lo.k) ∧
    w.cell? ⟨b, o + 6, none⟩ = some (I T.lo.s) ∧
    w.cell? ⟨b, o + 7, none⟩ = some (.string T.lo.nm) ∧
    w.cell? ⟨b, o + 8, none⟩ = some (I T.lo.n) ∧
    w.cell? ⟨b, o + 9, none⟩ = some T.lo.args.v ∧
    w.cell? ⟨b, o + 10, none⟩ = some (I T.hi.k) ∧
    w.cell? ⟨b, o + 11, none⟩ = some (I T.hi.s) ∧
    w.cell? ⟨b, o + 12, none⟩ = some (.string T.hi.nm) ∧
    w.cell? ⟨b, o + 13, none⟩ = some (I T.hi.n) ∧
    w.cell? ⟨b, o + 14, none⟩ = some T.hi.args.v :=
  ⟨h 0 (by simp [Tpm.cells]), h 1 (by simp [Tpm.cells]), h 2 (by simp [Tpm.cells]), h 3 (by simp [Tpm.cells]), h 4 (by simp [Tpm.cells]), h 5 (by simp [Tpm.cells]), h 6 (by simp [Tpm.cells]), h 7 (by simp [Tpm.cells]), h 8 (by simp [Tpm.cells]), h 9 (by simp [Tpm.cells]), h 10 (by simp [Tpm.cells]), h 11 (by simp [Tpm.cells]), h 12 (by simp [Tpm.cells]), h 13 (by simp [Tpm.cells]), h 14 (by simp [Tpm.cells])⟩
/-- A class has a short name and short lists. -/
def FitC (k : Cls) : Prop := k.nm.size ≤ 100 ∧ k.tps.l.length + k.prms.l.length + k.flds.l.length + k.mths.l.length + k.tys.l.length ≤ 200
def Fits (l : List Cls) : Prop := l.length ≤ 25 ∧ ∀ k ∈ l, FitC k
def FewOut (l : List Cls) (w : World) (e : Ending) (w' : World) : Prop := ∃ b, e = .returned (.bool b) ∧ (b = true → Fits l) ∧ Below w.heap.size w w'
theorem FewOut.mk {l : List Cls} {w w' : World} (b : Bool) (h : Below w.heap.size w w') (hb : b = true → Fits l := by intro h; first | cases h | (simp at h)) : FewOut l w (.returned (.bool b)) w' := ⟨b, rfl, hb, h⟩
theorem fit_of {ok : Nat → Prop} {w : World} {T : Cls} (hc : ClsL ok w T)
    (h : (T.nm.size : Int) ≤ 100 ∧ wrap64 (wrap64 (wrap64 (wrap64 ((T.tps.l.length : Int) + T.prms.l.length) + T.flds.l.length) + T.mths.l.length) + T.tys.l.length) ≤ 200) : FitC T := by
  obtain ⟨_, _, ⟨i1, i2, i3, i4, i5⟩, _⟩ := hc
  have a1 := i1.1.2.1
  have a2 := i2.1.2.1
  have a3 := i3.1.2.1
  have a4 := i4.1.2.1
  have a5 := i5.1.2.1
  obtain ⟨h1, h2⟩ := h
  rw [IntWalk.wrap64_in (_ + (T.prms.l.length : Int)) (by omega), IntWalk.wrap64_in (_ + (T.flds.l.length : Int)) (by omega), IntWalk.wrap64_in (_ + (T.mths.l.length : Int)) (by omega), IntWalk.wrap64_in (_ + (T.tys.l.length : Int)) (by omega)] at h2
  exact ⟨by omega, by omega⟩

/-- In the midst of Few: behind the base world wb nothing has turned but the number in block g; wb has what w had. -/
structure Mid (g : Nat) (w wb : World) : Prop where
  os : wb.os = w.os
  tape : wb.tape = w.tape
  output : wb.output = w.output
  size : w.heap.size ≤ wb.heap.size
  block : ∀ k, k < w.heap.size → wb.heap[k]? = w.heap[k]?
  lt : w.heap.size ≤ g
section
variable {g : Nat} {w wb wx : World} {m : Int}
theorem Mid.blk (h : Mid g w wb) (k : Kp g wb wx m) : ∀ i, i < w.heap.size → wx.heap[i]? = w.heap[i]? := fun i hi => (k.block i (Nat.lt_of_lt_of_le hi h.size) (by have := h.lt; omega)).trans (h.block i hi)
theorem Mid.below (h : Mid g w wb) (k : Kp g wb wx m) : Below w.heap.size w wx :=
  ⟨k.os.trans h.os, k.tape.trans h.tape, k.output.trans h.output, Nat.le_trans h.size k.size, h.blk k⟩
theorem Mid.tys (h : Mid g w wb) (k : Kp g wb wx m) {s : Sl Ty} (hs : TysL (inW w) w s) : TysL (okg g wx) wx s :=
  (hs.same (h.blk k)).imp fun i hi => ⟨Nat.lt_of_lt_of_le (Nat.lt_of_lt_of_le hi h.size) k.size, by have := h.lt; omega⟩
theorem Mid.ty (h : Mid g w wb) (k : Kp g wb wx m) {s : Ty} (hs : TyL (inW w) w s) : TyL (okg g wx) wx s :=
  (hs.same (h.blk k)).imp fun i hi => ⟨Nat.lt_of_lt_of_le (Nat.lt_of_lt_of_le hi h.size) k.size, by have := h.lt; omega⟩
theorem Mid.tres (h : Mid g w wb) (k : Kp g wb wx m) {s : Sl Tre} (hs : TresL (inW w) w s) : TresL (okg g wx) wx s :=
  (hs.same (h.blk k)).imp fun i hi => ⟨Nat.lt_of_lt_of_le (Nat.lt_of_lt_of_le hi h.size) k.size, by have := h.lt; omega⟩
theorem Mid.tre (h : Mid g w wb) (k : Kp g wb wx m) {s : Tre} (hs : TreL (inW w) w s) : TreL (okg g wx) wx s :=
  (hs.same (h.blk k)).imp fun i hi => ⟨Nat.lt_of_lt_of_le (Nat.lt_of_lt_of_le hi h.size) k.size, by have := h.lt; omega⟩
theorem Mid.locs (h : Mid g w wb) (k : Kp g wb wx m) {s : Sl Loc} (hs : SlAt (inW w) w 7 88 Loc.cells s ∧ ∀ x ∈ s.l, LocL (inW w) w x) : SlAt (okg g wx) wx 7 88 Loc.cells s ∧ ∀ x ∈ s.l, LocL (okg g wx) wx x :=
  have hi : ∀ i, inW w i → okg g wx i := fun i hi => ⟨Nat.lt_of_lt_of_le (Nat.lt_of_lt_of_le hi h.size) k.size, by have := h.lt; have : i < w.heap.size := hi; omega⟩
  ⟨(hs.1.same (h.blk k)).imp hi, fun x hx => ((hs.2 x hx).same (h.blk k)).imp hi⟩
theorem Mid.tyms (h : Mid g w wb) (k : Kp g wb wx m) {s : Sl Tym} (hs : SlAt (inW w) w 13 160 Tym.cells s ∧ ∀ x ∈ s.l, TymL (inW w) w x) : SlAt (okg g wx) wx 13 160 Tym.cells s ∧ ∀ x ∈ s.l, TymL (okg g wx) wx x :=
  have hi : ∀ i, inW w i → okg g wx i := fun i hi => ⟨Nat.lt_of_lt_of_le (Nat.lt_of_lt_of_le hi h.size) k.size, by have := h.lt; have : i < w.heap.size := hi; omega⟩
  ⟨(hs.1.same (h.blk k)).imp hi, fun x hx => ((hs.2 x hx).same (h.blk k)).imp hi⟩
theorem Mid.oneTy (h : Mid g w wb) (k : Kp g wb wx m) {s : Ty} (hs : TyL (inW w) w s) : Calls Tryz.prog 25 #[.slice (some ⟨wx.heap.size, 0, none⟩) 1 1, I 1, .pointer (some ⟨g, 0, none⟩)] (wx.alloc (.cells s.cells.toArray 60)) (Ans g (wx.alloc (.cells s.cells.toArray 60)) (tysM 70 [s] m)) :=
  types_any 70 g ⟨some ⟨wx.heap.size, 0, none⟩, 1, [s]⟩ 1 _ m (by omega) (one_ty (heap_alloc_new _ _) (by have := k.lt; omega) (h.ty (k.alloc _) hs)) (k.alloc _).cell (k.alloc _).frozen
theorem Mid.twoTy (h : Mid g w wb) (k : Kp g wb wx m) {s t : Ty} (hs : TyL (inW w) w s) (ht : TyL (inW w) w t) : Calls Tryz.prog 25 #[.slice (some ⟨wx.heap.size, 0, none⟩) 2 2, I 1, .pointer (some ⟨g, 0, none⟩)] (wx.alloc (.cells (s.cells ++ t.cells).toArray 60)) (Ans g (wx.alloc (.cells (s.cells ++ t.cells).toArray 60)) (tysM 70 [s, t] m)) :=
  types_any 70 g ⟨some ⟨wx.heap.size, 0, none⟩, 2, [s, t]⟩ 1 _ m (by omega) (two_ty (heap_alloc_new _ _) (by have := k.lt; omega) (h.ty (k.alloc _) hs) (h.ty (k.alloc _) ht)) (k.alloc _).cell (k.alloc _).frozen
theorem Mid.oneTyN (h : Mid g w wb) (k : Kp g wb wx m) {s : Ty} (hs : TyL (inW w) w s) {N : Nat} (hN : wx.heap.size = N) : Calls Tryz.prog 25 #[.slice (some ⟨N, 0, none⟩) 1 1, I 1, .pointer (some ⟨g, 0, none⟩)] (wx.alloc (.cells s.cells.toArray 60)) (Ans g (wx.alloc (.cells s.cells.toArray 60)) (tysM 70 [s] m)) := by
  subst hN; exact h.oneTy k hs
theorem Mid.twoTyN (h : Mid g w wb) (k : Kp g wb wx m) {s t : Ty} (hs : TyL (inW w) w s) (ht : TyL (inW w) w t) {N : Nat} (hN : wx.heap.size = N) : Calls Tryz.prog 25 #[.slice (some ⟨N, 0, none⟩) 2 2, I 1, .pointer (some ⟨g, 0, none⟩)] (wx.alloc (.cells (s.cells ++ t.cells).toArray 60)) (Ans g (wx.alloc (.cells (s.cells ++ t.cells).toArray 60)) (tysM 70 [s, t] m)) := by
  subst hN; exact h.twoTy k hs ht
theorem Mid.oneTre (h : Mid g w wb) (k : Kp g wb wx m) {s : Tre} (hs : TreL (inW w) w s) : Calls Tryz.prog 26 #[.slice (some ⟨wx.heap.size, 0, none⟩) 1 1, I 1, .pointer (some ⟨g, 0, none⟩)] (wx.alloc (.cells s.cells.toArray 66)) (Ans g (wx.alloc (.cells s.cells.toArray 66)) (tresM 200 [s] m)) :=
  trees_any 200 g ⟨some ⟨wx.heap.size, 0, none⟩, 1, [s]⟩ 1 _ m (by omega) (one_tre (heap_alloc_new _ _) (by have := k.lt; omega) (h.tre (k.alloc _) hs)) (k.alloc _).cell (k.alloc _).frozen
end

theorem Kp.box {g : Nat} {w wx : World} {m : Int} {cs : Array Value} {t : TypeId} (hk : Kp g (w.alloc (.cells cs t)) wx m) (hg : w.heap.size ≠ g) (j : Nat) : wx.cell? ⟨w.heap.size, j, none⟩ = cs[j]? :=
  (hk.cellAt (by simp) hg j).trans (World.cell?_alloc_new w cs t j)

set_option maxHeartbeats 4000000 in
theorem few_any (p : Prg) (w : World) (hp : PrgL (inW w) w p) : Calls Tryz.prog 7 #[p.agg] w (FewOut p.cls.l w) := by
  have HP := Lib.hid hp
  clear hp
  obtain ⟨cls, mth, fld, tpm, tym, main⟩ := p
  obtain ⟨ca, cc, cl⟩ := cls
  obtain ⟨ma, mc, ml⟩ := mth
  obtain ⟨fa, fc, fl⟩ := fld
  obtain ⟨pa, pc, pl⟩ := tpm
  obtain ⟨ya, yc, yl⟩ := tym
  unfold Prg.agg Sl.v
  dsimp only
  by_cases hsz : cl.length ≤ 25 ∧ ml.length ≤ 60 ∧ fl.length ≤ 60 ∧ pl.length ≤ 60 ∧ yl.length ≤ 60
  · obtain ⟨z1, z2, z3, z4, z5⟩ := hsz
    have d1 : decide ((25 : Int) < (cl.length : Int)) = false := decide_eq_false (by omega)
    have d2 : decide ((60 : Int) < (ml.length : Int)) = false := decide_eq_false (by omega)
    have d3 : decide ((60 : Int) < (fl.length : Int)) = false := decide_eq_false (by omega)
    have d4 : decide ((60 : Int) < (pl.length : Int)) = false := decide_eq_false (by omega)
    have d5 : decide ((60 : Int) < (yl.length : Int)) = false := decide_eq_false (by omega)
    go_enter Tryz.func7, Tryz.ntmps7
    go_wp2_with fail
    have hmid : Mid (w.heap.size + 1) w ((w.alloc (.cells #[.slice ca cl.length cc, .slice ma ml.length mc, .slice fa fl.length fc, .slice pa pl.length pc, .slice ya yl.length yc, I main] 28)).alloc (.cells #[.int .i64 3000] 3)) :=
      ⟨rfl, rfl, rfl, by simp; omega, fun k hk => by rw [Below.heap_alloc _ _ _ (by simp; omega), Below.heap_alloc _ _ _ hk], by omega⟩
    have hk0 : Kp (w.heap.size + 1) ((w.alloc (.cells #[.slice ca cl.length cc, .slice ma ml.length mc, .slice fa fl.length fc, .slice pa pl.length pc, .slice ya yl.length yc, I main] 28)).alloc (.cells #[.int .i64 3000] 3)) ((w.alloc (.cells #[.slice ca cl.length cc, .slice ma ml.length mc, .slice fa fl.length fc, .slice pa pl.length pc, .slice ya yl.length yc, I main] 28)).alloc (.cells #[.int .i64 3000] 3)) 3000 :=
      Kp.refl (by rw [World.cell?_alloc_at _ _ _ _ (by simp)]; rfl) (by
        have := heap_alloc_new (w.alloc (.cells #[.slice ca cl.length cc, .slice ma ml.length mc, .slice fa fl.length fc, .slice pa pl.length pc, .slice ya yl.length yc, I main] 28)) (.cells #[.int .i64 3000] 3)
        rw [World.size_alloc] at this
        unfold World.frozen?
        dsimp only
        rw [this]
        rfl)
    have hP0 : ∀ j, ((w.alloc (.cells #[.slice ca cl.length cc, .slice ma ml.length mc, .slice fa fl.length fc, .slice pa pl.length pc, .slice ya yl.length yc, I main] 28)).alloc (.cells #[.int .i64 3000] 3)).cell? ⟨w.heap.size, j, none⟩ = #[.slice ca cl.length cc, .slice ma ml.length mc, .slice fa fl.length fc, .slice pa pl.length pc, .slice ya yl.length yc, I main][j]? := fun j => World.cell?_alloc2_first _ _ _ _
    change Code.wp _ _ _ _ ((w.alloc (.cells #[.slice ca cl.length cc, .slice ma ml.length mc, .slice fa fl.length fc, .slice pa pl.length pc, .slice ya yl.length yc, I main] 28)).alloc (.cells #[.int .i64 3000] 3))
    generalize ((w.alloc (.cells #[.slice ca cl.length cc, .slice ma ml.length mc, .slice fa fl.length fc, .slice pa pl.length pc, .slice ya yl.length yc, I main] 28)).alloc (.cells #[.int .i64 3000] 3)) = wb at *
    have HM := Lib.hid hmid
    have HK0 := Lib.hid hk0
    have HP0 := Lib.hid hP0
    have hgw : w.heap.size ≠ w.heap.size + 1 := by omega
    have hPlt : w.heap.size < wb.heap.size := by have := hk0.lt; omega
    clear hmid hk0 hP0 d1 d2 d3 d4 d5
    go_loopg [43] (cl.length + 1) (fun n v wr => ∃ i : Nat, i ≤ cl.length ∧ v = .int .i64 i ∧ Hid (n = cl.length + 1 - i) ∧ Hid (∀ q (hq : q < cl.length), q < i → FitC cl[q]) ∧ Hid (∃ m, Kp (w.heap.size + 1) wb wr m))
    case atStart => exact ⟨0, by omega, rfl, rfl, Lib.hid (fun q hq h => absurd h (Nat.not_lt_zero _)), _, HK0.out⟩
    case round =>
      obtain ⟨i, hi, rfl, HN, HFT, HMM⟩ := hrel
      obtain ⟨m, hk⟩ := HMM.out
      have HK := Lib.hid hk
      clear hk HMM
      by_cases hlt : i < cl.length
      · have d2 : ((i : Int) < (cl.length : Int)) := by omega
        obtain ⟨b, o, ha, hok, hcs⟩ := sl_at HP.out.cls (by show 0 < cl.length; omega)
        dsimp only at ha
        subst ha
        have ht := cls_cells ((hcs i hlt).same (HM.out.blk HK.out b hok))
        have HCL := Lib.hid (HP.out.clsL _ (List.getElem_mem hlt))
        clear hcs hok
        dsimp only at ht HCL
        generalize hT : cl[i] = T at *
        obtain ⟨t0, t1, t2, t3, t4, t5, t6, t7, t8, t9, t10, t11, t12⟩ := ht
        have HKA := Lib.hid (HK.out.alloc (.cells #[.string T.nm, I T.kind, I T.flags, I T.owner, .slice T.tps.a T.tps.l.length T.tps.cap, .slice T.pars.a T.pars.l.length T.pars.cap, .slice T.prms.a T.prms.l.length T.prms.cap, .slice T.flds.a T.flds.l.length T.flds.cap, .slice T.mths.a T.mths.l.length T.mths.cap, .slice T.tys.a T.tys.l.length T.tys.cap, .slice T.sups.a T.sups.l.length T.sups.cap, .slice T.ini.a T.ini.l.length T.ini.cap, I T.p] 54))
        have HC1 := Lib.hid (fun (wx : World) (m : Int) (hk : Kp (w.heap.size + 1) wb wx m) => types_any 70 (w.heap.size + 1) T.pars 1 wx m (by omega) (HM.out.tys hk HCL.out.2.2.2.1) hk.cell hk.frozen)
        have HC2 := Lib.hid (fun (wx : World) (m : Int) (hk : Kp (w.heap.size + 1) wb wx m) => trees_any 200 (w.heap.size + 1) T.sups 1 wx m (by omega) (HM.out.tres hk HCL.out.2.2.2.2.1) hk.cell hk.frozen)
        have HC3 := Lib.hid (fun (wx : World) (m : Int) (hk : Kp (w.heap.size + 1) wb wx m) => trees_any 200 (w.heap.size + 1) T.ini 1 wx m (by omega) (HM.out.tres hk HCL.out.2.2.2.2.2) hk.cell hk.frozen)
        unfold Sl.v at t4 t5 t6 t7 t8 t9 t10 t11
        have hne : wr.heap.size ≠ w.heap.size + 1 := by have := HK.out.lt; omega
        have HQ := Lib.hid (show ∀ (wx : World) (m : Int), Kp (w.heap.size + 1) (wr.alloc (.cells #[.string T.nm, I T.kind, I T.flags, I T.owner, .slice T.tps.a T.tps.l.length T.tps.cap, .slice T.pars.a T.pars.l.length T.pars.cap, .slice T.prms.a T.prms.l.length T.prms.cap, .slice T.flds.a T.flds.l.length T.flds.cap, .slice T.mths.a T.mths.l.length T.mths.cap, .slice T.tys.a T.tys.l.length T.tys.cap, .slice T.sups.a T.sups.l.length T.sups.cap, .slice T.ini.a T.ini.l.length T.ini.cap, I T.p] 54)) wx m →
            wx.cell? ⟨wr.heap.size, 10, none⟩ = some (.slice T.sups.a T.sups.l.length T.sups.cap) ∧ wx.cell? ⟨wr.heap.size, 11, none⟩ = some (.slice T.ini.a T.ini.l.length T.ini.cap) from fun wx m hk => ⟨hk.box hne 10, hk.box hne 11⟩)
        go_wp2_with (first
          | (go_at_call 25; refine (HC1.out _ _ HKA.out).mono ?_; rintro e w1 ⟨rfl, hk1⟩; obtain ⟨q10, q11⟩ := HQ.out _ _ hk1; generalize (tysM 70 T.pars.l m).1 = b1 at *; cases b1)
          | (go_at_call_of 26 (Value.slice T.sups.a T.sups.l.length T.sups.cap); refine (HC2.out _ _ (HKA.out.trans hk1)).mono ?_; rintro e w2 ⟨rfl, hk2⟩; obtain ⟨r10, r11⟩ := HQ.out _ _ (hk1.trans hk2); generalize (tresM 200 T.sups.l _).1 = b2 at *; cases b2)
          | (go_at_call_of 26 (Value.slice T.ini.a T.ini.l.length T.ini.cap); refine (HC3.out _ _ ((HKA.out.trans hk1).trans hk2)).mono ?_; rintro e w3 ⟨rfl, hk3⟩; generalize (tresM 200 T.ini.l _).1 = b3 at *; cases b3))
        all_goals first
          | (go_ret
             first
               | exact FewOut.mk _ (HM.out.below HKA.out)
               | exact FewOut.mk _ (HM.out.below (HKA.out.trans hk1))
               | exact FewOut.mk _ (HM.out.below ((HKA.out.trans hk1).trans hk2))
               | exact FewOut.mk _ (HM.out.below (((HKA.out.trans hk1).trans hk2).trans hk3)))
          | (go_roundg (cl.length + 1 - (i + 1))
             case measure => have := HN.out; omega
             case rel =>
               have hfit : FitC T := fit_of HCL.out (by assumption)
               exact ⟨i + 1, by omega, by go_num, rfl, Lib.hid (fun q hq h => by
                 rcases Nat.lt_or_ge q i with h' | h'
                 · exact HFT.out q hq h'
                 · obtain rfl : q = i := by omega
                   rw [hT]; exact hfit), _, ((HKA.out.trans hk1).trans hk2).trans hk3⟩)
      · obtain rfl : i = cl.length := by omega
        have HFIT : Hid (Fits cl) := Lib.hid ⟨z1, fun k hk => by
          obtain ⟨q, hq, rfl⟩ := List.getElem_of_mem hk
          exact HFT.out q hq hq⟩
        clear HFT
        have p1 := (HK.out.cellAt hPlt hgw 1).trans (HP0.out 1)
        have p2 := (HK.out.cellAt hPlt hgw 2).trans (HP0.out 2)
        have p3 := (HK.out.cellAt hPlt hgw 3).trans (HP0.out 3)
        have p4 := (HK.out.cellAt hPlt hgw 4).trans (HP0.out 4)
        simp at p1 p2 p3 p4
        go_wp2_with fail
        clear HN hi hlt p1
        go_loopg [95] (ml.length + 1) (fun n v wr => ∃ i : Nat, i ≤ ml.length ∧ v = .int .i64 i ∧ Hid (n = ml.length + 1 - i) ∧ Hid (∃ m, Kp (w.heap.size + 1) wb wr m))
        case atStart => exact ⟨0, by omega, rfl, rfl, _, HK.out⟩
        case round =>
          clear HK p2 p3 p4
          obtain ⟨i, hi, rfl, HN, HMM⟩ := hrel
          obtain ⟨m, hk⟩ := HMM.out
          have HK := Lib.hid hk
          clear hk HMM
          by_cases hlt : i < ml.length
          · have d2 : ((i : Int) < (ml.length : Int)) := by omega
            obtain ⟨b, o, ha, hok, hcs⟩ := sl_at HP.out.mth (by show 0 < ml.length; omega)
            dsimp only at ha
            subst ha
            have ht := mth_cells ((hcs i hlt).same (HM.out.blk HK.out b hok))
            have HCL := Lib.hid (HP.out.mthL _ (List.getElem_mem hlt))
            clear hcs hok
            dsimp only at ht HCL
            generalize ml[i] = T at *
            obtain ⟨t0, t1, t2, t3, t4, t5, t6, t7, t8, t9, t10, t11, t12⟩ := ht
            have hne : wr.heap.size ≠ w.heap.size + 1 := by have := HK.out.lt; omega
            have HKA := Lib.hid (HK.out.alloc (.cells #[.string T.nm, I T.owner, I T.flags, .slice T.tps.a T.tps.l.length T.tps.cap, I T.params, .slice T.locs.a T.locs.l.length T.locs.cap, I T.res.k, I T.res.s, .string T.res.nm, I T.res.n, .slice T.res.args.a T.res.args.l.length T.res.args.cap, .pointer (T.body.map (·.1)), I T.p] 63))
            have HQ := Lib.hid (show ∀ (wx : World) (m : Int), Kp (w.heap.size + 1) (wr.alloc (.cells #[.string T.nm, I T.owner, I T.flags, .slice T.tps.a T.tps.l.length T.tps.cap, I T.params, .slice T.locs.a T.locs.l.length T.locs.cap, I T.res.k, I T.res.s, .string T.res.nm, I T.res.n, .slice T.res.args.a T.res.args.l.length T.res.args.cap, .pointer (T.body.map (·.1)), I T.p] 63)) wx m →
                wx.cell? ⟨wr.heap.size, 6, none⟩ = some (I T.res.k) ∧ wx.cell? ⟨wr.heap.size, 7, none⟩ = some (I T.res.s) ∧ wx.cell? ⟨wr.heap.size, 8, none⟩ = some (.string T.res.nm) ∧ wx.cell? ⟨wr.heap.size, 9, none⟩ = some (I T.res.n) ∧ wx.cell? ⟨wr.heap.size, 10, none⟩ = some (.slice T.res.args.a T.res.args.l.length T.res.args.cap) ∧ wx.cell? ⟨wr.heap.size, 11, none⟩ = some (.pointer (T.body.map (·.1)))
                from fun wx m hk => ⟨hk.box hne 6, hk.box hne 7, hk.box hne 8, hk.box hne 9, hk.box hne 10, hk.box hne 11⟩)
            have HC1 := Lib.hid (fun (wx : World) (m : Int) (hk : Kp (w.heap.size + 1) wb wx m) => locals_any (w.heap.size + 1) T.locs wx m (HM.out.locs hk HCL.out.2.2.2.1) hk.cell hk.frozen)
            have HC2 := Lib.hid (fun (wx : World) (m : Int) (hk : Kp (w.heap.size + 1) wb wx m) => HM.out.oneTy hk HCL.out.2.2.2.2.1)
            have HC3 := Lib.hid HCL.out.2.2.2.2.2
            unfold Sl.v at t3 t5 t10
            cases hbody : T.body with
            | none =>
              rw [hbody] at t11 HKA HQ
              simp only [Option.map_none] at t11 HKA HQ
              clear HC3
              go_wp2_with (first
                | (go_at_call 27; refine (HC1.out _ _ HKA.out).mono ?_; rintro e w1 ⟨rfl, hk1⟩; obtain ⟨q6, q7, q8, q9, q10, q11⟩ := HQ.out _ _ hk1; generalize (locsM T.locs.l m).1 = b1 at *; cases b1)
                | (go_at_call 25; refine (HC2.out _ _ (HKA.out.trans hk1)).mono ?_; rintro e w2 ⟨rfl, hk2⟩; obtain ⟨_, _, _, _, _, r11⟩ := HQ.out _ _ ((hk1.alloc _).trans hk2); generalize (tysM 70 [T.res] _).1 = b2 at *; cases b2))
              all_goals first
                | (go_ret
                   first
                     | exact FewOut.mk _ (HM.out.below HKA.out)
                     | exact FewOut.mk _ (HM.out.below (HKA.out.trans hk1))
                     | exact FewOut.mk _ (HM.out.below (((HKA.out.trans hk1).alloc _).trans hk2)))
                | (go_roundg (ml.length + 1 - (i + 1))
                   case measure => have := HN.out; omega
                   case rel => exact ⟨i + 1, by omega, by go_num, rfl, _, ((HKA.out.trans hk1).alloc _).trans hk2⟩)
            | some x =>
              obtain ⟨ad, B⟩ := x
              rw [hbody] at t11 HKA HQ HC3
              simp only [Option.map_some] at t11 HKA HQ
              obtain ⟨bb, oo, rfl, hokb, hcb, hB⟩ := HC3.out
              have HCB := Lib.hid (show ∀ (wx : World) (m : Int), Kp (w.heap.size + 1) wb wx m → wx.cell? ⟨bb, oo, none⟩ = some (I B.k) ∧ wx.cell? ⟨bb, oo + 1, none⟩ = some (I B.s) ∧ wx.cell? ⟨bb, oo + 2, none⟩ = some (I B.n) ∧ wx.cell? ⟨bb, oo + 3, none⟩ = some (.string B.tx) ∧ wx.cell? ⟨bb, oo + 4, none⟩ = some (I B.ty.k) ∧
                  wx.cell? ⟨bb, oo + 5, none⟩ = some (I B.ty.s) ∧ wx.cell? ⟨bb, oo + 6, none⟩ = some (.string B.ty.nm) ∧ wx.cell? ⟨bb, oo + 7, none⟩ = some (I B.ty.n) ∧ wx.cell? ⟨bb, oo + 8, none⟩ = some (.slice B.ty.args.a B.ty.args.l.length B.ty.args.cap) ∧ wx.cell? ⟨bb, oo + 9, none⟩ = some (.slice B.tys.a B.tys.l.length B.tys.cap) ∧
                  wx.cell? ⟨bb, oo + 10, none⟩ = some (.slice B.kids.a B.kids.l.length B.kids.cap) ∧ wx.cell? ⟨bb, oo + 11, none⟩ = some (I B.p) from fun wx m hk => tre_cells (hcb.same (HM.out.blk hk bb hokb)))
              have HC4 := Lib.hid (fun (wx : World) (m : Int) (hk : Kp (w.heap.size + 1) wb wx m) => HM.out.oneTre hk hB)
              clear hcb hB hokb HC3
              go_wp2_with (first
                | (go_at_call 27; refine (HC1.out _ _ HKA.out).mono ?_; rintro e w1 ⟨rfl, hk1⟩; obtain ⟨q6, q7, q8, q9, q10, q11⟩ := HQ.out _ _ hk1; generalize (locsM T.locs.l m).1 = b1 at *; cases b1)
                | (go_at_call 25; refine (HC2.out _ _ (HKA.out.trans hk1)).mono ?_; rintro e w2 ⟨rfl, hk2⟩; obtain ⟨_, _, _, _, _, r11⟩ := HQ.out _ _ ((hk1.alloc _).trans hk2); obtain ⟨s0, s1, s2, s3, s4, s5, s6, s7, s8, s9, s10, s11⟩ := HCB.out _ _ (((HKA.out.trans hk1).alloc _).trans hk2); generalize (tysM 70 [T.res] _).1 = b2 at *; cases b2)
                | (go_at_call 26; refine (HC4.out _ _ (((HKA.out.trans hk1).alloc _).trans hk2)).mono ?_; rintro e w3 ⟨rfl, hk3⟩; generalize (tresM 200 [B] _).1 = b3 at *; cases b3))
              all_goals first
                | (go_ret
                   first
                     | exact FewOut.mk _ (HM.out.below HKA.out)
                     | exact FewOut.mk _ (HM.out.below (HKA.out.trans hk1))
                     | exact FewOut.mk _ (HM.out.below (((HKA.out.trans hk1).alloc _).trans hk2))
                     | exact FewOut.mk _ (HM.out.below (((((HKA.out.trans hk1).alloc _).trans hk2).alloc _).trans hk3)))
                | (go_roundg (ml.length + 1 - (i + 1))
                   case measure => have := HN.out; omega
                   case rel => exact ⟨i + 1, by omega, by go_num, rfl, _, ((((HKA.out.trans hk1).alloc _).trans hk2).alloc _).trans hk3⟩)
          · obtain rfl : i = ml.length := by omega
            have p2 := (HK.out.cellAt hPlt hgw 2).trans (HP0.out 2)
            have p3 := (HK.out.cellAt hPlt hgw 3).trans (HP0.out 3)
            have p4 := (HK.out.cellAt hPlt hgw 4).trans (HP0.out 4)
            simp at p2 p3 p4
            go_wp2_with fail
            clear HN hi hlt p2
            go_loopg [140] (fl.length + 1) (fun n v wr => ∃ i : Nat, i ≤ fl.length ∧ v = .int .i64 i ∧ Hid (n = fl.length + 1 - i) ∧ Hid (∃ m, Kp (w.heap.size + 1) wb wr m))
            case atStart => exact ⟨0, by omega, rfl, rfl, _, HK.out⟩
            case round =>
              clear HK p3 p4
              obtain ⟨i, hi, rfl, HN, HMM⟩ := hrel
              obtain ⟨m, hk⟩ := HMM.out
              have HK := Lib.hid hk
              clear hk HMM
              by_cases hlt : i < fl.length
              · have d2 : ((i : Int) < (fl.length : Int)) := by omega
                obtain ⟨b, o, ha, hok, hcs⟩ := sl_at HP.out.fld (by show 0 < fl.length; omega)
                dsimp only at ha
                subst ha
                have ht := fld_cells ((hcs i hlt).same (HM.out.blk HK.out b hok))
                have HCL := Lib.hid (HP.out.fldL _ (List.getElem_mem hlt))
                clear hcs hok
                dsimp only at ht HCL
                generalize fl[i] = T at *
                obtain ⟨t0, t1, t2, t3, t4, t5, t6, t7, t8⟩ := ht
                have HKA := Lib.hid (HK.out.alloc (.cells #[.string T.nm, I T.owner, I T.flags, I T.ty.k, I T.ty.s, .string T.ty.nm, I T.ty.n, .slice T.ty.args.a T.ty.args.l.length T.ty.args.cap, I T.p] 68))
                have HC1 := Lib.hid (HM.out.oneTyN HKA.out HCL.out.2.2 (N := wr.heap.size + 1) (by simp))
                unfold Sl.v at t7
                go_wp2_with (go_at_call 25; refine HC1.out.mono ?_; rintro e w1 ⟨rfl, hk1⟩; generalize (tysM 70 [T.ty] m).1 = b1 at *; cases b1)
                all_goals first
                  | (go_ret
                     first
                       | exact FewOut.mk _ (HM.out.below HKA.out)
                       | exact FewOut.mk _ (HM.out.below ((HKA.out.alloc _).trans hk1)))
                  | (go_roundg (fl.length + 1 - (i + 1))
                     case measure => have := HN.out; omega
                     case rel => exact ⟨i + 1, by omega, by go_num, rfl, _, (HKA.out.alloc _).trans hk1⟩)
              · obtain rfl : i = fl.length := by omega
                have p3 := (HK.out.cellAt hPlt hgw 3).trans (HP0.out 3)
                have p4 := (HK.out.cellAt hPlt hgw 4).trans (HP0.out 4)
                simp at p3 p4
                go_wp2_with fail
                clear HN hi hlt p3
                go_loopg [159] (pl.length + 1) (fun n v wr => ∃ i : Nat, i ≤ pl.length ∧ v = .int .i64 i ∧ Hid (n = pl.length + 1 - i) ∧ Hid (∃ m, Kp (w.heap.size + 1) wb wr m))
                case atStart => exact ⟨0, by omega, rfl, rfl, _, HK.out⟩
                case round =>
                  clear HK p4
                  obtain ⟨i, hi, rfl, HN, HMM⟩ := hrel
                  obtain ⟨m, hk⟩ := HMM.out
                  have HK := Lib.hid hk
                  clear hk HMM
                  by_cases hlt : i < pl.length
                  · have d2 : ((i : Int) < (pl.length : Int)) := by omega
                    obtain ⟨b, o, ha, hok, hcs⟩ := sl_at HP.out.tpm (by show 0 < pl.length; omega)
                    dsimp only at ha
                    subst ha
                    have ht := tpm_cells ((hcs i hlt).same (HM.out.blk HK.out b hok))
                    have HCL := Lib.hid (HP.out.tpmL _ (List.getElem_mem hlt))
                    clear hcs hok
                    dsimp only at ht HCL
                    generalize pl[i] = T at *
                    obtain ⟨t0, t1, t2, t3, t4, t5, t6, t7, t8, t9, t10, t11, t12, t13, t14⟩ := ht
                    have HKA := Lib.hid (HK.out.alloc (.cells #[.string T.nm, I T.cls, I T.mth, I T.var, I T.ar, I T.lo.k, I T.lo.s, .string T.lo.nm, I T.lo.n, .slice T.lo.args.a T.lo.args.l.length T.lo.args.cap, I T.hi.k, I T.hi.s, .string T.hi.nm, I T.hi.n, .slice T.hi.args.a T.hi.args.l.length T.hi.args.cap] 70))
                    have HC1 := Lib.hid (HM.out.twoTyN HKA.out HCL.out.2.2.1 HCL.out.2.2.2 (N := wr.heap.size + 1) (by simp))
                    unfold Sl.v at t9 t14
                    go_wp2_with (go_at_call 25; refine HC1.out.mono ?_; rintro e w1 ⟨rfl, hk1⟩; generalize (tysM 70 [T.lo, T.hi] m).1 = b1 at *; cases b1)
                    all_goals first
                      | (go_ret
                         first
                           | exact FewOut.mk _ (HM.out.below HKA.out)
                           | exact FewOut.mk _ (HM.out.below ((HKA.out.alloc _).trans hk1)))
                      | (go_roundg (pl.length + 1 - (i + 1))
                         case measure => have := HN.out; omega
                         case rel => exact ⟨i + 1, by omega, by go_num, rfl, _, (HKA.out.alloc _).trans hk1⟩)
                  · obtain rfl : i = pl.length := by omega
                    have p4 := (HK.out.cellAt hPlt hgw 4).trans (HP0.out 4)
                    simp at p4
                    have HC1 := Lib.hid (con38_any (w.heap.size + 1) ⟨ya, yc, yl⟩ #[.pointer (some ⟨w.heap.size + 1, 0, none⟩)] cbTym wr m (HM.out.tyms HK.out ⟨HP.out.tym, HP.out.tymL⟩) HK.out.cell HK.out.frozen
                      (fun w1 T n hk hT => cb39_any (w.heap.size + 1) T w1 n hT hk.cell hk.frozen))
                    unfold Sl.v at HC1
                    dsimp only at HC1
                    go_wp2_with (go_at_call 28; refine HC1.out.mono ?_; rintro e w1 ⟨rfl, hk1⟩)
                    go_ret
                    exact FewOut.mk _ (HM.out.below (HK.out.trans hk1)) (fun _ => HFIT.out)
  · by_cases z1 : cl.length ≤ 25
    · have d1 : decide ((25 : Int) < (cl.length : Int)) = false := decide_eq_false (by omega)
      by_cases z2 : ml.length ≤ 60
      · have d2 : decide ((60 : Int) < (ml.length : Int)) = false := decide_eq_false (by omega)
        by_cases z3 : fl.length ≤ 60
        · have d3 : decide ((60 : Int) < (fl.length : Int)) = false := decide_eq_false (by omega)
          by_cases z4 : pl.length ≤ 60
          · have d4 : decide ((60 : Int) < (pl.length : Int)) = false := decide_eq_false (by omega)
            have d5 : decide ((60 : Int) < (yl.length : Int)) = true := decide_eq_true (by omega)
            clear z1 z2 z3 z4 hsz
            go_enter Tryz.func7, Tryz.ntmps7
            go_wp2_with fail
            go_ret
            exact FewOut.mk _ ((Below.refl _ _).alloc (Nat.le_refl _) _)
          · have d4 : decide ((60 : Int) < (pl.length : Int)) = true := decide_eq_true (by omega)
            clear z1 z2 z3 z4 hsz
            go_enter Tryz.func7, Tryz.ntmps7
            go_wp2_with fail
            go_ret
            exact FewOut.mk _ ((Below.refl _ _).alloc (Nat.le_refl _) _)
        · have d3 : decide ((60 : Int) < (fl.length : Int)) = true := decide_eq_true (by omega)
          clear z1 z2 z3 hsz
          go_enter Tryz.func7, Tryz.ntmps7
          go_wp2_with fail
          go_ret
          exact FewOut.mk _ ((Below.refl _ _).alloc (Nat.le_refl _) _)
      · have d2 : decide ((60 : Int) < (ml.length : Int)) = true := decide_eq_true (by omega)
        clear z1 z2 hsz
        go_enter Tryz.func7, Tryz.ntmps7
        go_wp2_with fail
        go_ret
        exact FewOut.mk _ ((Below.refl _ _).alloc (Nat.le_refl _) _)
    · have d1 : decide ((25 : Int) < (cl.length : Int)) = true := decide_eq_true (by omega)
      clear z1 hsz
      go_enter Tryz.func7, Tryz.ntmps7
      go_wp2_with fail
      go_ret
      exact FewOut.mk _ ((Below.refl _ _).alloc (Nat.le_refl _) _)
end Go.Proofs.YtfbaikijnjafbaaGreatDoor
