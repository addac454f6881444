/- FindClass and rule 8 for classes. Conditions: what each theorem names. -/
import Derived.Test.YtfbaikijnjafbaaGreatDoorSb
import Derived.Test.YtfbaikijnjafbaaGreatDoorSe
import Derived.StillTailTactics
namespace Go.Proofs.YtfbaikijnjafbaaGreatDoor
set_option linter.unusedSimpArgs false
set_option linter.unusedVariables false
open Go.RowKit
set_option maxRecDepth 100000

set_option maxHeartbeats 800000 in
theorem find11_any {ok : Nat → Prop} (p : Prg) (owner : Int) (name : ByteArray) (object : Bool) (w : World) (hp : PrgL ok w p) (hok : ∀ k, ok k → k < w.heap.size) :
    Calls Tryz.prog 111 #[p.agg, I owner, .string name, .bool object] w fun e w' => e = .returned (I (findM owner name object p.cls.l 0)) ∧ Below w.heap.size w w' := by
  obtain ⟨⟨a, cap, l⟩, mth, fld, tpm, tym, main⟩ := p
  have hl : l.length ≤ 140737488355328 := by
    have h1 := hp.cls.1; have h2 := hp.cls.2.1
    dsimp only at h1 h2
    omega
  have HP := Lib.hid hp
  have HL := Lib.hid hl
  have HO := Lib.hid hok
  clear hp hl hok
  unfold Prg.agg Sl.v
  dsimp only
  generalize hres : findM owner name object l 0 = res
  have HR := Lib.hid hres
  clear hres
  go_enter Tryz.func111, Tryz.ntmps111
  go_wp2_with fail
  have hbox : (w.alloc (.cells #[.slice a l.length cap, .slice mth.a mth.l.length mth.cap, .slice fld.a fld.l.length fld.cap, .slice tpm.a tpm.l.length tpm.cap, .slice tym.a tym.l.length tym.cap, I main] 28)).cell? ⟨w.heap.size, 0, none⟩ = some (.slice a l.length cap) := by
    rw [World.cell?_alloc_new]; rfl
  have HB := Lib.hid hbox
  clear hbox
  change Code.wp _ _ _ _ (w.alloc (.cells #[.slice a l.length cap, .slice mth.a mth.l.length mth.cap, .slice fld.a fld.l.length fld.cap, .slice tpm.a tpm.l.length tpm.cap, .slice tym.a tym.l.length tym.cap, I main] 28))
  have HW := Lib.hid ((Below.refl w.heap.size w).alloc (Nat.le_refl _) (.cells #[.slice a l.length cap, .slice mth.a mth.l.length mth.cap, .slice fld.a fld.l.length fld.cap, .slice tpm.a tpm.l.length tpm.cap, .slice tym.a tym.l.length tym.cap, I main] 28))
  have hz : (w.alloc (.cells #[.slice a l.length cap, .slice mth.a mth.l.length mth.cap, .slice fld.a fld.l.length fld.cap, .slice tpm.a tpm.l.length tpm.cap, .slice tym.a tym.l.length tym.cap, I main] 28)).heap.size = w.heap.size + 1 := by simp
  generalize (w.alloc (.cells #[.slice a l.length cap, .slice mth.a mth.l.length mth.cap, .slice fld.a fld.l.length fld.cap, .slice tpm.a tpm.l.length tpm.cap, .slice tym.a tym.l.length tym.cap, I main] 28)) = wb at *
  have HZ := Lib.hid hz
  clear hz
  go_loopg [14] (l.length + 1) (fun n v wr => ∃ i : Nat, i ≤ l.length ∧ v = .int .i64 i ∧ Hid (n = l.length + 1 - i) ∧ Hid (findM owner name object (l.drop i) i = res) ∧ Hid (Below (w.heap.size + 1) wb wr))
  case atStart => exact ⟨0, by omega, rfl, rfl, HR.out, Below.refl _ _⟩
  case round =>
    obtain ⟨i, hi, rfl, HN, HD, HK⟩ := hrel
    have q0 : wr.cell? ⟨w.heap.size, 0, none⟩ = some (.slice a l.length cap) := (HK.out.cell (by show w.heap.size < _; omega)).trans HB.out
    have hplt : w.heap.size < wr.heap.size := (cell_spot q0).2
    by_cases hlt : i < l.length
    · have d2 : ((i : Int) < (l.length : Int)) := by omega
      obtain ⟨b, o, ha, hokb, hcs⟩ := sl_at HP.out.cls (by show 0 < l.length; omega)
      dsimp only at ha
      subst ha
      have hbl : b < w.heap.size := HO.out b hokb
      obtain ⟨t0, t1, t2, t3, t4, t5, t6, t7, t8, t9, t10, t11, t12⟩ := cls_cells0 ((hcs i hlt).same ((HK.out.block b (by omega)).trans (HW.out.block b hbl)))
      have HD2 : Hid ((if l[i].owner == owner && (l[i].nm.toList == name.toList && ((l[i].kind == 2) == object)) then (i : Int) else findM owner name object (l.drop (i + 1)) (i + 1)) = res) := by
        have := HD.out; rw [List.drop_eq_getElem_cons hlt] at this; exact this
      clear hcs hokb HD hbl
      dsimp only at t0 t1 t2 t3 t4 t5 t6 t7 t8 t9 t10 t11 t12
      generalize l[i] = T at *
      unfold Sl.v at t4 t5 t6 t7 t8 t9 t10 t11
      have hres2 : Hid (if (T.owner == owner) = true ∧ (T.nm.toList == name.toList) = true ∧ ((T.kind == 2) == object) = true then (i : Int) = res else findM owner name object (l.drop (i + 1)) (i + 1) = res) := by
        have h1 := HD2.out
        show if _ then _ else _
        split
        · rename_i h; obtain ⟨e1, e2, e3⟩ := h; rw [e1, e2, e3] at h1; exact h1
        · rename_i h
          rw [if_neg (by simpa using h)] at h1; exact h1
      clear HD2
      have hal : ∀ o, Below (w.heap.size + 1) wb (wr.alloc o) := fun o => HK.out.alloc (by omega) o
      have HAL := Lib.hid hal
      clear hal
      have hL := HL.out
      cases e1 : (T.owner == owner) with
      | false =>
        have h1 := hres2.out
        rw [e1] at h1
        simp only [Bool.false_eq_true, false_and, if_false] at h1
        have H1 := Lib.hid h1
        clear h1 hres2
        go_wp2_with fail
        go_roundg (l.length + 1 - (i + 1))
        case measure => have := HN.out; omega
        case rel => exact ⟨i + 1, by omega, by first | go_num | (rw [IntWalk.wrap64_in _ (by omega)]; go_num), rfl, H1.out, HAL.out _⟩
      | true =>
        cases e2 : (T.nm.toList == name.toList) with
        | false =>
          have h1 := hres2.out
          rw [e2] at h1
          simp only [Bool.false_eq_true, false_and, and_false, if_false] at h1
          have H1 := Lib.hid h1
          clear h1 hres2
          go_wp2_with fail
          go_roundg (l.length + 1 - (i + 1))
          case measure => have := HN.out; omega
          case rel => exact ⟨i + 1, by omega, by first | go_num | (rw [IntWalk.wrap64_in _ (by omega)]; go_num), rfl, H1.out, HAL.out _⟩
        | true =>
          cases e3 : ((T.kind == 2) == object) with
          | false =>
            have h1 := hres2.out
            rw [e3] at h1
            simp only [Bool.false_eq_true, false_and, and_false, if_false] at h1
            have H1 := Lib.hid h1
            clear h1 hres2
            go_wp2_with fail
            go_roundg (l.length + 1 - (i + 1))
            case measure => have := HN.out; omega
            case rel => exact ⟨i + 1, by omega, by first | go_num | (rw [IntWalk.wrap64_in _ (by omega)]; go_num), rfl, H1.out, HAL.out _⟩
          | true =>
            have h1 := hres2.out
            rw [e1, e2, e3] at h1
            simp only [true_and, if_true] at h1
            have H1 := Lib.hid h1
            clear h1 hres2
            go_wp2_with fail
            go_ret
            have h1 := H1.out
            subst h1
            exact ⟨rfl, HW.out.trans ((HAL.out _).mono (by omega))⟩
    · obtain rfl : i = l.length := by omega
      go_wp2_with fail
      go_ret
      have := HD.out
      rw [List.drop_length] at this
      subst this
      exact ⟨rfl, HW.out.trans (HK.out.mono (by omega))⟩

attribute [local irreducible] wpStill
def classTwiceM (P : Prg) (i : Nat) (c : Cls) : Int := if (findM c.owner c.nm (c.kind == 2) P.cls.l 0 != (i : Int)) = true then 28 else 0
set_option maxHeartbeats 1600000 in
theorem classTwice_any (P : Prg) (T : Nat) (i : Nat) (w : World) (h : TL w T P) (hi : i < P.cls.l.length) : Calls Tryz.prog 69 #[ptr T, I i] w (Bof w (I (classTwiceM P i P.cls.l[i]))) := by
  have hB : Below w.heap.size w (boxC w P.cls.l[i]) := (Below.refl _ _).alloc (Nat.le_refl _) _
  have hL : P.cls.l.length ≤ 140737488355328 := by have h1 := h.prg.cls.1; have h2 := h.prg.cls.2.1; omega
  obtain ⟨b, o, ha, hok, hcs⟩ := sl_at h.prg.cls (by omega)
  obtain ⟨t0, t1, t2, t3, t4, t5, t6, t7, t8, t9, t10, t11, t12⟩ := cls_cells0 (hcs i hi)
  obtain ⟨c0, _, _, _, _, _⟩ := h.cells
  have HT := Lib.hid (h.below hB)
  have HLT := Lib.hid h.lt
  have HB := Lib.hid hB
  have hii : ((i : Int) < (P.cls.l.length : Int)) := by omega
  have HFI := Lib.hid (find11_any P P.cls.l[i].owner P.cls.l[i].nm (P.cls.l[i].kind == 2) (boxC w P.cls.l[i]).drew (HT.out.below (Below.refl _ _).drew).prg (fun k hk => Nat.lt_trans hk HT.out.lt))
  have hca : P.cls.v = .slice (some ⟨b, o, none⟩) P.cls.l.length P.cls.cap := by unfold Sl.v; rw [ha]
  rw [ha] at c0
  clear h hB hcs hok
  generalize P.cls.l[i] = c at *
  generalize hres : classTwiceM P i c = res
  unfold classTwiceM at hres
  have HR := Lib.hid hres
  clear hres
  unfold Prg.agg at HFI
  rw [hca] at HFI
  obtain ⟨nm, kind, flags, owner, ⟨ta, tc, tl⟩, ⟨ra, rc, rl⟩, ⟨pa, pc, pl⟩, ⟨fa, fc, fl⟩, ⟨ma, mc, ml⟩, ⟨ya, yc, yl⟩, ⟨sa, sc, sl⟩, ⟨na, nc, nl⟩, p⟩ := c
  unfold Bof
  unfold boxC at HB HT HFI
  unfold Sl.v at t4 t5 t6 t7 t8 t9 t10 t11 HFI
  dsimp only at HB HT HFI HR t4 t5 t6 t7 t8 t9 t10 t11 t0 t1 t2 t3 t12
  generalize findM owner nm (kind == 2) P.cls.l 0 = fi at *
  go_enter Tryz.func69, Tryz.ntmps69
  go_upto_region 2 with fail
  change Code.wp _ _ _ _ (w.alloc (.cells #[.string nm, I kind, I flags, I owner, .slice ta tl.length tc, .slice ra rl.length rc, .slice pa pl.length pc, .slice fa fl.length fc, .slice ma ml.length mc, .slice ya yl.length yc, .slice sa sl.length sc, .slice na nl.length nc, I p] 54))
  have hX : ∀ j, (w.alloc (.cells #[.string nm, I kind, I flags, I owner, .slice ta tl.length tc, .slice ra rl.length rc, .slice pa pl.length pc, .slice fa fl.length fc, .slice ma ml.length mc, .slice ya yl.length yc, .slice sa sl.length sc, .slice na nl.length nc, I p] 54)).cell? ⟨w.heap.size, j, none⟩ = #[.string nm, I kind, I flags, I owner, .slice ta tl.length tc, .slice ra rl.length rc, .slice pa pl.length pc, .slice fa fl.length fc, .slice ma ml.length mc, .slice ya yl.length yc, .slice sa sl.length sc, .slice na nl.length nc, I p][j]? := fun j => World.cell?_alloc_new w _ 54 j
  generalize (w.alloc (.cells #[.string nm, I kind, I flags, I owner, .slice ta tl.length tc, .slice ra rl.length rc, .slice pa pl.length pc, .slice fa fl.length fc, .slice ma ml.length mc, .slice ya yl.length yc, .slice sa sl.length sc, .slice na nl.length nc, I p] 54)) = w1 at *
  have x0 : w1.cell? ⟨w.heap.size, 0, none⟩ = some (.string nm) := hX 0
  have x1 : w1.cell? ⟨w.heap.size, 1, none⟩ = some (I kind) := hX 1
  have x3 : w1.cell? ⟨w.heap.size, 3, none⟩ = some (I owner) := hX 3
  obtain ⟨c0, c1, c2, c3, c4, c5⟩ := HT.out.cells
  rw [ha] at c0
  clear hX t0 t1 t2 t3 t4 t5 t6 t7 t8 t9 t10 t11 t12 hii
  cases e : (fi != (i : Int)) with
  | true =>
    obtain rfl : (28 : Int) = res := by have := HR.out; rw [e] at this; exact this
    go_still_tail 11, (by kernel_rfl)
    change wpList _ _ _ _ _ w1.drew
    go_wp2_with (first | (go_at_call 111; refine HFI.out.mono ?_; rintro e w2 ⟨rfl, hb⟩) | (go_at_call 112; refine (once_any _ _).mono ?_; rintro e w3 ⟨rfl, rfl⟩; dsimp only))
    go_ret
    exact ⟨rfl, HB.out.trans ((Below.refl _ _).drew.trans (hb.mono (show w.heap.size ≤ w1.drew.heap.size from HB.out.size)))⟩
  | false =>
    obtain rfl : (0 : Int) = res := by have := HR.out; rw [e] at this; exact this
    go_still_tail 11, (by kernel_rfl)
    change wpList _ _ _ _ _ w1.drew
    go_wp2_with (first | (go_at_call 111; refine HFI.out.mono ?_; rintro e w2 ⟨rfl, hb⟩) | (go_at_call 112; refine (once_any _ _).mono ?_; rintro e w3 ⟨rfl, rfl⟩; dsimp only))
    go_ret
    exact ⟨rfl, HB.out.trans ((Below.refl _ _).drew.trans (hb.mono (show w.heap.size ≤ w1.drew.heap.size from HB.out.size)))⟩
end Go.Proofs.YtfbaikijnjafbaaGreatDoor
