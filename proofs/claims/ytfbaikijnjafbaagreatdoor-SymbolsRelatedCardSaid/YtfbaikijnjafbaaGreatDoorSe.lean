/- owns of package symbols: whether what stands in a class's lists belongs to it. Conditions: what the theorem names. -/
import Derived.Test.YtfbaikijnjafbaaGreatDoorSb
namespace Go.Proofs.YtfbaikijnjafbaaGreatDoor
set_option linter.unusedSimpArgs false
set_option linter.unusedVariables false
open Go.RowKit
set_option maxRecDepth 100000

def fldOf (P : Prg) (i : Nat) (j : Int) : Bool := match P.fld.l[j.toNat]? with | some f => f.owner == (i : Int) | none => false
def mthOf (P : Prg) (i : Nat) (j : Int) : Bool := match P.mth.l[j.toNat]? with | some f => f.owner == (i : Int) | none => false
def tymOf (P : Prg) (i : Nat) (j : Int) : Bool := match P.tym.l[j.toNat]? with | some f => f.owner == (i : Int) | none => false
def tpmOf (P : Prg) (i : Nat) (j : Int) : Bool := match P.tpm.l[j.toNat]? with | some f => !(f.cls != (i : Int) || f.mth != -1) | none => false
def ownsB (P : Prg) (i : Nat) (c : Cls) : Bool := c.flds.l.all (fldOf P i) && (c.mths.l.all (mthOf P i) && (c.tys.l.all (tymOf P i) && c.tps.l.all (tpmOf P i)))

theorem inM_at {α : Type} {l : List α} {j : Int} (h : inM j l.length = true) : ∃ y : Nat, j = (y : Int) ∧ j.toNat = y ∧ y < l.length := by
  unfold inM at h
  rw [Bool.and_eq_true, decide_eq_true_eq, decide_eq_true_eq] at h
  exact ⟨j.toNat, by omega, rfl, by omega⟩
theorem allIn_get {n : Nat} {l : List Int} (h : allIn n l = true) (i : Nat) (hi : i < l.length) : inM l[i] n = true := by
  unfold allIn at h
  exact List.all_eq_true.1 h _ (List.getElem_mem hi)
theorem fld_cells0 {w : World} {b o : Nat} {T : Fld} (h : CellsIn w b o T.cells) : w.cell? ⟨b, o + 1, none⟩ = some (I T.owner) := h 1 (by simp [Fld.cells])
theorem mth_cells1 {w : World} {b o : Nat} {T : Mth} (h : CellsIn w b o T.cells) : w.cell? ⟨b, o + 1, none⟩ = some (I T.owner) := h 1 (by simp [Mth.cells])
theorem tym_cells1 {w : World} {b o : Nat} {T : Tym} (h : CellsIn w b o T.cells) : w.cell? ⟨b, o + 1, none⟩ = some (I T.owner) := h 1 (by simp [Tym.cells])
theorem tpm_cells0 {w : World} {b o : Nat} {T : Tpm} (h : CellsIn w b o T.cells) :
    w.cell? ⟨b, o, none⟩ = some (.string T.nm) ∧ w.cell? ⟨b, o + 1, none⟩ = some (I T.cls) ∧ w.cell? ⟨b, o + 2, none⟩ = some (I T.mth) ∧ w.cell? ⟨b, o + 3, none⟩ = some (I T.var) ∧ w.cell? ⟨b, o + 4, none⟩ = some (I T.ar) ∧
    w.cell? ⟨b, o + 5, none⟩ = some (I T.lo.k) ∧ w.cell? ⟨b, o + 6, none⟩ = some (I T.lo.s) ∧ w.cell? ⟨b, o + 7, none⟩ = some (.string T.lo.nm) ∧ w.cell? ⟨b, o + 8, none⟩ = some (I T.lo.n) ∧ w.cell? ⟨b, o + 9, none⟩ = some (.slice T.lo.args.a T.lo.args.l.length T.lo.args.cap) ∧
    w.cell? ⟨b, o + 10, none⟩ = some (I T.hi.k) ∧ w.cell? ⟨b, o + 11, none⟩ = some (I T.hi.s) ∧ w.cell? ⟨b, o + 12, none⟩ = some (.string T.hi.nm) ∧ w.cell? ⟨b, o + 13, none⟩ = some (I T.hi.n) ∧ w.cell? ⟨b, o + 14, none⟩ = some (.slice T.hi.args.a T.hi.args.l.length T.hi.args.cap) :=
  ⟨h 0 (by simp [Tpm.cells]), h 1 (by simp [Tpm.cells]), h 2 (by simp [Tpm.cells]), h 3 (by simp [Tpm.cells]), h 4 (by simp [Tpm.cells]), h 5 (by simp [Tpm.cells]), h 6 (by simp [Tpm.cells]), h 7 (by simp [Tpm.cells]), h 8 (by simp [Tpm.cells]), h 9 (by simp [Tpm.cells]), h 10 (by simp [Tpm.cells]), h 11 (by simp [Tpm.cells]), h 12 (by simp [Tpm.cells]), h 13 (by simp [Tpm.cells]), h 14 (by simp [Tpm.cells])⟩
abbrev boxC (w : World) (c : Cls) : World := w.alloc (.cells #[.string c.nm, I c.kind, I c.flags, I c.owner, .slice c.tps.a c.tps.l.length c.tps.cap, .slice c.pars.a c.pars.l.length c.pars.cap, .slice c.prms.a c.prms.l.length c.prms.cap, .slice c.flds.a c.flds.l.length c.flds.cap,
    .slice c.mths.a c.mths.l.length c.mths.cap, .slice c.tys.a c.tys.l.length c.tys.cap, .slice c.sups.a c.sups.l.length c.sups.cap, .slice c.ini.a c.ini.l.length c.ini.cap, I c.p] 54)

set_option maxHeartbeats 3200000 in
theorem owns_any (P : Prg) (T : Nat) (i : Nat) (w : World) (h : TL w T P) (hi : i < P.cls.l.length) (hall : listsB P P.cls.l[i] = true) : Calls Tryz.prog 100 #[ptr T, I i] w (Bof w (.bool (ownsB P i P.cls.l[i]))) := by
  have hB : Below w.heap.size w (boxC w P.cls.l[i]) := (Below.refl _ _).alloc (Nat.le_refl _) _
  have HH := Lib.hid (h.below hB)
  have HC := Lib.hid (h.prg.clsL _ (List.getElem_mem hi))
  have HL := Lib.hid (show P.cls.l.length ≤ 140737488355328 by have h1 := h.prg.cls.1; have h2 := h.prg.cls.2.1; omega)
  obtain ⟨b, o, ha, hok, hcs⟩ := sl_at h.prg.cls (by omega)
  obtain ⟨t0, t1, t2, t3, t4, t5, t6, t7, t8, t9, t10, t11, t12⟩ := cls_cells0 (hcs i hi)
  obtain ⟨c0, c1, c2, c3, c4, c5⟩ := h.cells
  rw [ha] at c0
  have HB := Lib.hid hB
  have HT := Lib.hid h.lt
  clear h hB hcs hok
  have hii : ((i : Int) < (P.cls.l.length : Int)) := by omega
  generalize P.cls.l[i] = c at *
  have hz := HL.out
  obtain ⟨hall1, hall2, hall3, hall4, hall5⟩ : allIn (sizeM P 4) c.tps.l = true ∧ allIn (sizeM P 3) c.prms.l = true ∧ allIn (sizeM P 3) c.flds.l = true ∧ allIn (sizeM P 2) c.mths.l = true ∧ allIn (sizeM P 5) c.tys.l = true := by
    unfold listsB at hall
    simpa [and_assoc] using hall
  have HA1 := Lib.hid hall1
  have HA3 := Lib.hid hall3
  have HA4 := Lib.hid hall4
  have HA5 := Lib.hid hall5
  clear hall hall1 hall2 hall3 hall4 hall5
  obtain ⟨nm, kind, flags, owner, ⟨ta, tc, tl⟩, ⟨ra, rc, rl⟩, ⟨pa, pc, pl⟩, ⟨fa, fc, fl⟩, ⟨ma, mc, ml⟩, ⟨ya, yc, yl⟩, ⟨sa, sc, sl⟩, ⟨na, nc, nl⟩, p⟩ := c
  unfold Bof
  generalize hres : ownsB P i _ = res
  unfold ownsB at hres
  unfold boxC at HB HH
  unfold Sl.v at t4 t5 t6 t7 t8 t9 t10 t11
  dsimp only at HH HB HC hres t4 t5 t6 t7 t8 t9 t10 t11 HA1 HA3 HA4 HA5 t0 t1 t2 t3 t12
  have HR := Lib.hid hres
  clear hres
  go_enter Tryz.func100, Tryz.ntmps100
  go_upto_region 2 with fail
  change Code.wp _ _ _ _ (w.alloc (.cells #[.string nm, I kind, I flags, I owner, .slice ta tl.length tc, .slice ra rl.length rc, .slice pa pl.length pc, .slice fa fl.length fc, .slice ma ml.length mc, .slice ya yl.length yc, .slice sa sl.length sc, .slice na nl.length nc, I p] 54))
  have hX : ∀ j, (w.alloc (.cells #[.string nm, I kind, I flags, I owner, .slice ta tl.length tc, .slice ra rl.length rc, .slice pa pl.length pc, .slice fa fl.length fc, .slice ma ml.length mc, .slice ya yl.length yc, .slice sa sl.length sc, .slice na nl.length nc, I p] 54)).cell? ⟨w.heap.size, j, none⟩ = #[.string nm, I kind, I flags, I owner, .slice ta tl.length tc, .slice ra rl.length rc, .slice pa pl.length pc, .slice fa fl.length fc, .slice ma ml.length mc, .slice ya yl.length yc, .slice sa sl.length sc, .slice na nl.length nc, I p][j]? := fun j => World.cell?_alloc_new w _ 54 j
  have HZ := Lib.hid (show (w.alloc (.cells #[.string nm, I kind, I flags, I owner, .slice ta tl.length tc, .slice ra rl.length rc, .slice pa pl.length pc, .slice fa fl.length fc, .slice ma ml.length mc, .slice ya yl.length yc, .slice sa sl.length sc, .slice na nl.length nc, I p] 54)).heap.size = w.heap.size + 1 by simp)
  generalize (w.alloc (.cells #[.string nm, I kind, I flags, I owner, .slice ta tl.length tc, .slice ra rl.length rc, .slice pa pl.length pc, .slice fa fl.length fc, .slice ma ml.length mc, .slice ya yl.length yc, .slice sa sl.length sc, .slice na nl.length nc, I p] 54)) = w1 at *
  have x4 : w1.cell? ⟨w.heap.size, 4, none⟩ = some (.slice ta tl.length tc) := hX 4
  have x7 : w1.cell? ⟨w.heap.size, 7, none⟩ = some (.slice fa fl.length fc) := hX 7
  have x8 : w1.cell? ⟨w.heap.size, 8, none⟩ = some (.slice ma ml.length mc) := hX 8
  have x9 : w1.cell? ⟨w.heap.size, 9, none⟩ = some (.slice ya yl.length yc) := hX 9
  clear hX t0 t1 t2 t3 t4 t5 t6 t7 t8 t9 t10 t11 t12 c0 c1 c2 c3 c4 c5 hii
  obtain ⟨_, _, ⟨j1, j2, j3, j4, j5⟩, _⟩ := HC.out
  have hkk : ∀ k, k < T → w1.heap[k]? = w.heap[k]? := fun k hk => HB.out.block k (Nat.lt_trans hk HT.out)
  have J1 := Lib.hid (j1.same hkk)
  have J3 := Lib.hid (j3.same hkk)
  have J4 := Lib.hid (j4.same hkk)
  have J5 := Lib.hid (j5.same hkk)
  clear j1 j2 j3 j4 j5 hkk HC
  obtain ⟨c0, c1, c2, c3, c4, c5⟩ := HH.out.cells
  clear c0 c5
  have HLn : Hid (fl.length ≤ 140737488355328) := Lib.hid (by have h1 := J3.out.1.1; have h2 := J3.out.1.2.1; (try dsimp only at h1 h2); omega)
  go_wp2_with fail
  go_loopg [26] (fl.length + 1) (fun n v wx => ∃ i' : Nat, i' ≤ fl.length ∧ v = .int .i64 i' ∧ Hid (n = fl.length + 1 - i') ∧ Hid (((fl.drop i').all (fldOf P i) && (ml.all (mthOf P i) && (yl.all (tymOf P i) && tl.all (tpmOf P i)))) = res) ∧ wx = w1)
  case atStart => exact ⟨0, by omega, rfl, rfl, HR.out, rfl⟩
  case round =>
    obtain ⟨k, hk, rfl, HN, HD, rfl⟩ := hrel
    by_cases hlt : k < fl.length
    · have d2 : ((k : Int) < (fl.length : Int)) := by omega
      obtain ⟨b, o, ha, hok, hcs⟩ := sl_at J3.out.1 (by show 0 < fl.length; omega)
      dsimp only at ha
      subst ha
      have ht : wr.cell? ⟨b, o + k, none⟩ = some (I fl[k]) := by have := hcs k hlt 0 (by simp); simpa using this
      have HD2 : Hid ((fldOf P i fl[k] && ((fl.drop (k + 1)).all (fldOf P i) && (ml.all (mthOf P i) && (yl.all (tymOf P i) && tl.all (tpmOf P i))))) = res) := by have := HD.out; rw [List.drop_eq_getElem_cons hlt, List.all_cons, Bool.and_assoc] at this; exact this
      obtain ⟨y, hy, hyn, hyl⟩ := inM_at (l := P.fld.l) (allIn_get HA3.out k hlt)
      have HLn := Lib.hid HLn.out
      clear hcs hok HD
      generalize fl[k] = q at *
      subst hy
      obtain ⟨b2, o2, ha2, hok2, hcs2⟩ := sl_at HH.out.prg.fld (by omega)
      have hu := fld_cells0 (hcs2 y hyl)
      rw [ha2] at c2
      have dy : ((y : Int) < (P.fld.l.length : Int)) := by omega
      have hbig : P.fld.l.length ≤ 140737488355328 := by have h1 := HH.out.prg.fld.1; have h2 := HH.out.prg.fld.2.1; omega
      have HD3 : Hid (((P.fld.l[y].owner == (i : Int)) && ((fl.drop (k + 1)).all (fldOf P i) && (ml.all (mthOf P i) && (yl.all (tymOf P i) && tl.all (tpmOf P i))))) = res) := by
        have := HD2.out
        unfold fldOf at this
        rw [Int.toNat_natCast, List.getElem?_eq_getElem hyl] at this
        exact this
      clear HD2 hcs2 hok2 hyn ha2
      generalize P.fld.l[y] = F at *
      cases e1 : F.owner == (i : Int) with
      | false =>
        obtain rfl : false = res := by have := HD3.out; rw [e1, Bool.false_and] at this; exact this
        have e1' : (F.owner != (i : Int)) = true := by rw [bne, e1]; rfl
        go_wp2_with fail
        go_ret
        exact ⟨rfl, HB.out⟩
      | true =>
        have HD4 : Hid (((fl.drop (k + 1)).all (fldOf P i) && (ml.all (mthOf P i) && (yl.all (tymOf P i) && tl.all (tpmOf P i)))) = res) := by have := HD3.out; rw [e1, Bool.true_and] at this; exact this
        have e1' : (F.owner != (i : Int)) = false := by rw [bne, e1]; rfl
        clear HD3
        go_wp2_with fail
        have := HLn.out
        go_roundg (fl.length + 1 - (k + 1))
        case measure => have := HN.out; omega
        case rel => exact ⟨k + 1, by omega, by first | go_num | (rw [IntWalk.wrap64_in _ (by omega)]; go_num), rfl, HD4, rfl⟩
    · obtain rfl : k = fl.length := by omega
      have HR : Hid ((ml.all (mthOf P i) && (yl.all (tymOf P i) && tl.all (tpmOf P i))) = res) := by have := HD.out; rw [List.drop_length, List.all_nil, Bool.true_and] at this; exact this
      clear HD HN
      have HLn : Hid (ml.length ≤ 140737488355328) := Lib.hid (by have h1 := J4.out.1.1; have h2 := J4.out.1.2.1; (try dsimp only at h1 h2); omega)
      go_wp2_with fail
      go_loopg [45] (ml.length + 1) (fun n v wx => ∃ i' : Nat, i' ≤ ml.length ∧ v = .int .i64 i' ∧ Hid (n = ml.length + 1 - i') ∧ Hid (((ml.drop i').all (mthOf P i) && (yl.all (tymOf P i) && tl.all (tpmOf P i))) = res) ∧ wx = wr)
      case atStart => exact ⟨0, by omega, rfl, rfl, HR.out, rfl⟩
      case round =>
        obtain ⟨k, hk, rfl, HN, HD, rfl⟩ := hrel
        by_cases hlt : k < ml.length
        · have d2 : ((k : Int) < (ml.length : Int)) := by omega
          obtain ⟨b, o, ha, hok, hcs⟩ := sl_at J4.out.1 (by show 0 < ml.length; omega)
          dsimp only at ha
          subst ha
          have ht : wr.cell? ⟨b, o + k, none⟩ = some (I ml[k]) := by have := hcs k hlt 0 (by simp); simpa using this
          have HD2 : Hid ((mthOf P i ml[k] && ((ml.drop (k + 1)).all (mthOf P i) && (yl.all (tymOf P i) && tl.all (tpmOf P i)))) = res) := by have := HD.out; rw [List.drop_eq_getElem_cons hlt, List.all_cons, Bool.and_assoc] at this; exact this
          obtain ⟨y, hy, hyn, hyl⟩ := inM_at (l := P.mth.l) (allIn_get HA4.out k hlt)
          have HLn := Lib.hid HLn.out
          clear hcs hok HD
          generalize ml[k] = q at *
          subst hy
          obtain ⟨b2, o2, ha2, hok2, hcs2⟩ := sl_at HH.out.prg.mth (by omega)
          have hu := mth_cells1 (hcs2 y hyl)
          rw [ha2] at c1
          have dy : ((y : Int) < (P.mth.l.length : Int)) := by omega
          have hbig : P.mth.l.length ≤ 140737488355328 := by have h1 := HH.out.prg.mth.1; have h2 := HH.out.prg.mth.2.1; omega
          have HD3 : Hid (((P.mth.l[y].owner == (i : Int)) && ((ml.drop (k + 1)).all (mthOf P i) && (yl.all (tymOf P i) && tl.all (tpmOf P i)))) = res) := by
            have := HD2.out
            unfold mthOf at this
            rw [Int.toNat_natCast, List.getElem?_eq_getElem hyl] at this
            exact this
          clear HD2 hcs2 hok2 hyn ha2
          generalize P.mth.l[y] = F at *
          cases e1 : F.owner == (i : Int) with
          | false =>
            obtain rfl : false = res := by have := HD3.out; rw [e1, Bool.false_and] at this; exact this
            have e1' : (F.owner != (i : Int)) = true := by rw [bne, e1]; rfl
            go_wp2_with fail
            go_ret
            exact ⟨rfl, HB.out⟩
          | true =>
            have HD4 : Hid (((ml.drop (k + 1)).all (mthOf P i) && (yl.all (tymOf P i) && tl.all (tpmOf P i))) = res) := by have := HD3.out; rw [e1, Bool.true_and] at this; exact this
            have e1' : (F.owner != (i : Int)) = false := by rw [bne, e1]; rfl
            clear HD3
            go_wp2_with fail
            have := HLn.out
            go_roundg (ml.length + 1 - (k + 1))
            case measure => have := HN.out; omega
            case rel => exact ⟨k + 1, by omega, by first | go_num | (rw [IntWalk.wrap64_in _ (by omega)]; go_num), rfl, HD4, rfl⟩
        · obtain rfl : k = ml.length := by omega
          have HR : Hid ((yl.all (tymOf P i) && tl.all (tpmOf P i)) = res) := by have := HD.out; rw [List.drop_length, List.all_nil, Bool.true_and] at this; exact this
          clear HD HN
          have HLn : Hid (yl.length ≤ 140737488355328) := Lib.hid (by have h1 := J5.out.1.1; have h2 := J5.out.1.2.1; (try dsimp only at h1 h2); omega)
          go_wp2_with fail
          go_loopg [64] (yl.length + 1) (fun n v wx => ∃ i' : Nat, i' ≤ yl.length ∧ v = .int .i64 i' ∧ Hid (n = yl.length + 1 - i') ∧ Hid (((yl.drop i').all (tymOf P i) && tl.all (tpmOf P i)) = res) ∧ wx = wr)
          case atStart => exact ⟨0, by omega, rfl, rfl, HR.out, rfl⟩
          case round =>
            obtain ⟨k, hk, rfl, HN, HD, rfl⟩ := hrel
            by_cases hlt : k < yl.length
            · have d2 : ((k : Int) < (yl.length : Int)) := by omega
              obtain ⟨b, o, ha, hok, hcs⟩ := sl_at J5.out.1 (by show 0 < yl.length; omega)
              dsimp only at ha
              subst ha
              have ht : wr.cell? ⟨b, o + k, none⟩ = some (I yl[k]) := by have := hcs k hlt 0 (by simp); simpa using this
              have HD2 : Hid ((tymOf P i yl[k] && ((yl.drop (k + 1)).all (tymOf P i) && tl.all (tpmOf P i))) = res) := by have := HD.out; rw [List.drop_eq_getElem_cons hlt, List.all_cons, Bool.and_assoc] at this; exact this
              obtain ⟨y, hy, hyn, hyl⟩ := inM_at (l := P.tym.l) (allIn_get HA5.out k hlt)
              have HLn := Lib.hid HLn.out
              clear hcs hok HD
              generalize yl[k] = q at *
              subst hy
              obtain ⟨b2, o2, ha2, hok2, hcs2⟩ := sl_at HH.out.prg.tym (by omega)
              have hu := tym_cells1 (hcs2 y hyl)
              rw [ha2] at c4
              have dy : ((y : Int) < (P.tym.l.length : Int)) := by omega
              have hbig : P.tym.l.length ≤ 140737488355328 := by have h1 := HH.out.prg.tym.1; have h2 := HH.out.prg.tym.2.1; omega
              have HD3 : Hid (((P.tym.l[y].owner == (i : Int)) && ((yl.drop (k + 1)).all (tymOf P i) && tl.all (tpmOf P i))) = res) := by
                have := HD2.out
                unfold tymOf at this
                rw [Int.toNat_natCast, List.getElem?_eq_getElem hyl] at this
                exact this
              clear HD2 hcs2 hok2 hyn ha2
              generalize P.tym.l[y] = F at *
              cases e1 : F.owner == (i : Int) with
              | false =>
                obtain rfl : false = res := by have := HD3.out; rw [e1, Bool.false_and] at this; exact this
                have e1' : (F.owner != (i : Int)) = true := by rw [bne, e1]; rfl
                go_wp2_with fail
                go_ret
                exact ⟨rfl, HB.out⟩
              | true =>
                have HD4 : Hid (((yl.drop (k + 1)).all (tymOf P i) && tl.all (tpmOf P i)) = res) := by have := HD3.out; rw [e1, Bool.true_and] at this; exact this
                have e1' : (F.owner != (i : Int)) = false := by rw [bne, e1]; rfl
                clear HD3
                go_wp2_with fail
                have := HLn.out
                go_roundg (yl.length + 1 - (k + 1))
                case measure => have := HN.out; omega
                case rel => exact ⟨k + 1, by omega, by first | go_num | (rw [IntWalk.wrap64_in _ (by omega)]; go_num), rfl, HD4, rfl⟩
            · obtain rfl : k = yl.length := by omega
              have HR : Hid (tl.all (tpmOf P i) = res) := by have := HD.out; rw [List.drop_length, List.all_nil, Bool.true_and] at this; exact this
              clear HD HN
              obtain ⟨w0, rfl⟩ : ∃ w0, w0 = wr := ⟨_, rfl⟩
              have HLn : Hid (tl.length ≤ 140737488355328) := Lib.hid (by have h1 := J1.out.1.1; have h2 := J1.out.1.2.1; (try dsimp only at h1 h2); omega)
              clear c1 c2 c4 x7 x8 x9
              go_wp2_with fail
              go_loopg [83] (tl.length + 1) (fun n v wx => ∃ i' : Nat, i' ≤ tl.length ∧ v = .int .i64 i' ∧ Hid (n = tl.length + 1 - i') ∧ Hid ((tl.drop i').all (tpmOf P i) = res) ∧ Hid (Below (w.heap.size + 1) w0 wx))
              case atStart => exact ⟨0, by omega, rfl, rfl, HR.out, Below.refl _ _⟩
              case round =>
                obtain ⟨k, hk, rfl, HN, HD, HW⟩ := hrel
                by_cases hlt : k < tl.length
                · have d2 : ((k : Int) < (tl.length : Int)) := by omega
                  have hkk : ∀ k, k < T → wr.heap[k]? = w0.heap[k]? := fun k hk => HW.out.block k (by have := HT.out; omega)
                  obtain ⟨b, o, ha, hok, hcs⟩ := sl_at J1.out.1 (by show 0 < tl.length; omega)
                  dsimp only at ha
                  subst ha
                  have ht : wr.cell? ⟨b, o + k, none⟩ = some (I tl[k]) := by have := ((hcs k hlt).same (hkk b hok)) 0 (by simp); simpa using this
                  have HD2 : Hid ((tpmOf P i tl[k] && (tl.drop (k + 1)).all (tpmOf P i)) = res) := by have := HD.out; rw [List.drop_eq_getElem_cons hlt, List.all_cons] at this; exact this
                  obtain ⟨y, hy, hyn, hyl⟩ := inM_at (l := P.tpm.l) (allIn_get HA1.out k hlt)
                  have HLn := Lib.hid HLn.out
                  clear hcs hok HD
                  generalize tl[k] = q at *
                  subst hy
                  have HTL := HH.out.move (w' := wr) fun k hk => HW.out.block k (by have := HT.out; omega)
                  obtain ⟨_, _, _, c3, _, _⟩ := HTL.cells
                  obtain ⟨b2, o2, ha2, hok2, hcs2⟩ := sl_at HTL.prg.tpm (by omega)
                  obtain ⟨u0, u1, u2, u3, u4, u5, u6, u7, u8, u9, u10, u11, u12, u13, u14⟩ := tpm_cells0 (hcs2 y hyl)
                  rw [ha2] at c3
                  have dy : ((y : Int) < (P.tpm.l.length : Int)) := by omega
                  have hbig : P.tpm.l.length ≤ 140737488355328 := by have h1 := HTL.prg.tpm.1; have h2 := HTL.prg.tpm.2.1; omega
                  have HD3 : Hid ((!(P.tpm.l[y].cls != (i : Int) || P.tpm.l[y].mth != -1) && (tl.drop (k + 1)).all (tpmOf P i)) = res) := by
                    have := HD2.out
                    unfold tpmOf at this
                    rw [Int.toNat_natCast, List.getElem?_eq_getElem hyl] at this
                    exact this
                  have hws : w.heap.size + 1 ≤ wr.heap.size := by have := HW.out.size; have := HZ.out; omega
                  clear HD2 hcs2 hok2 hyn ha2 hkk HTL
                  generalize P.tpm.l[y] = F at *
                  have HW2 := fun o => HW.out.alloc hws o
                  have HWh := Lib.hid HW2
                  clear HW2
                  cases e1 : (F.cls != (i : Int)) with
                  | true =>
                    obtain rfl : false = res := by have := HD3.out; rw [e1, Bool.true_or, Bool.not_true, Bool.false_and] at this; exact this
                    go_wp2_with fail
                    go_ret
                    exact ⟨rfl, HB.out.trans ((HWh.out _).mono (Nat.le_succ _))⟩
                  | false =>
                    cases e2 : (F.mth != -1) with
                    | true =>
                      obtain rfl : false = res := by have := HD3.out; rw [e1, e2, Bool.or_true, Bool.not_true, Bool.false_and] at this; exact this
                      go_wp2_with fail
                      go_ret
                      exact ⟨rfl, HB.out.trans ((HWh.out _).mono (Nat.le_succ _))⟩
                    | false =>
                      have HD4 : Hid ((tl.drop (k + 1)).all (tpmOf P i) = res) := by have := HD3.out; rw [e1, e2, Bool.or_false, Bool.not_false, Bool.true_and] at this; exact this
                      clear HD3
                      go_wp2_with fail
                      have := HLn.out
                      go_roundg (tl.length + 1 - (k + 1))
                      case measure => have := HN.out; omega
                      case rel => exact ⟨k + 1, by omega, by first | go_num | (rw [IntWalk.wrap64_in _ (by omega)]; go_num), rfl, HD4, HWh.out _⟩
                · obtain rfl : k = tl.length := by omega
                  obtain rfl : true = res := by have := HD.out; rw [List.drop_length, List.all_nil] at this; exact this
                  clear HD HN
                  go_wp2_with fail
                  go_ret
                  exact ⟨rfl, HB.out.trans (HW.out.mono (Nat.le_succ _))⟩
end Go.Proofs.YtfbaikijnjafbaaGreatDoor
