/- Contracts of the reference's small functions: in, among, FindClass, Inside. -/
import Derived.Test.YtfbaikijnjafbaaDoorTs
namespace Go.Proofs.YtfbaikijnjafbaaDoor
set_option linter.unusedSimpArgs false
set_option linter.unusedVariables false
open Go.RowKit
set_option maxRecDepth 100000

theorem cls_cells0 {w : World} {b o : Nat} {T : Cls} (h : CellsIn w b o T.cells) :
    w.cell? ⟨b, o, none⟩ = some (.string T.nm) ∧ w.cell? ⟨b, o + 1, none⟩ = some (I T.kind) ∧ w.cell? ⟨b, o + 2, none⟩ = some (I T.flags) ∧ w.cell? ⟨b, o + 3, none⟩ = some (I T.owner) ∧ w.cell? ⟨b, o + 4, none⟩ = some T.tps.v ∧
    w.cell? ⟨b, o + 5, none⟩ = some T.pars.v ∧ w.cell? ⟨b, o + 6, none⟩ = some T.prms.v ∧ w.cell? ⟨b, o + 7, none⟩ = some T.flds.v ∧ w.cell? ⟨b, o + 8, none⟩ = some T.mths.v ∧ w.cell? ⟨b, o + 9, none⟩ = some T.tys.v ∧
    w.cell? ⟨b, o + 10, none⟩ = some T.sups.v ∧ w.cell? ⟨b, o + 11, none⟩ = some T.ini.v ∧ w.cell? ⟨b, o + 12, none⟩ = some (I T.p) :=
  ⟨h 0 (by simp [Cls.cells]), h 1 (by simp [Cls.cells]), h 2 (by simp [Cls.cells]), h 3 (by simp [Cls.cells]), h 4 (by simp [Cls.cells]), h 5 (by simp [Cls.cells]), h 6 (by simp [Cls.cells]), h 7 (by simp [Cls.cells]), h 8 (by simp [Cls.cells]), h 9 (by simp [Cls.cells]), h 10 (by simp [Cls.cells]), h 11 (by simp [Cls.cells]), h 12 (by simp [Cls.cells])⟩

def inM (i n : Int) : Bool := decide (0 ≤ i) && decide (i < n)
def amongM (l : List Int) (x : Int) : Bool := l.any (· == x)
def findM (owner : Int) (name : ByteArray) (object : Bool) : List Cls → Nat → Int
  | [], _ => -1
  | c :: l, i => if c.owner == owner && (c.nm.toList == name.toList && ((c.kind == 2) == object)) then (i : Int) else findM owner name object l (i + 1)

/-- The box of a program, and what Check and its fellows do behind it: nothing below has turned. -/
theorem prg_box (p : Prg) (w : World) : ∀ j, (w.alloc (.cells #[p.cls.v, p.mth.v, p.fld.v, p.tpm.v, p.tym.v, I p.main] 30)).cell? ⟨w.heap.size, j, none⟩ = #[p.cls.v, p.mth.v, p.fld.v, p.tpm.v, p.tym.v, I p.main][j]? := fun j => World.cell?_alloc_new w _ 30 j

set_option maxHeartbeats 800000 in
theorem find18_any {ok : Nat → Prop} (p : Prg) (owner : Int) (name : ByteArray) (object : Bool) (w : World) (hp : PrgL ok w p) (hok : ∀ k, ok k → k < w.heap.size) :
    Calls Tryd.prog 12 #[p.agg, I owner, .string name, .bool object] w fun e w' => e = .returned (I (findM owner name object p.cls.l 0)) ∧ Below w.heap.size w w' := by
  obtain ⟨⟨a, cap, l⟩, mth, fld, tpm, tym, main⟩ := p
  have hl : l.length ≤ 140737488355328 := by
    have h1 := hp.cls.1; have h2 := hp.cls.2.1
    dsimp only at h1 h2
    omega
  have HP := Lib.hid hp
  have HL := Lib.hid hl
  have HO := Lib.hid hok
  clear hp hl hok
  unfold Prg.agg Sl.v
  dsimp only
  generalize hres : findM owner name object l 0 = res
  have HR := Lib.hid hres
  clear hres
  go_enter Tryd.func12, Tryd.ntmps12
  go_wp2_with fail
  have hbox : (w.alloc (.cells #[.slice a l.length cap, .slice mth.a mth.l.length mth.cap, .slice fld.a fld.l.length fld.cap, .slice tpm.a tpm.l.length tpm.cap, .slice tym.a tym.l.length tym.cap, I main] 30)).cell? ⟨w.heap.size, 0, none⟩ = some (.slice a l.length cap) := by
    rw [World.cell?_alloc_new]; rfl
  have HB := Lib.hid hbox
  clear hbox
  change Code.wp _ _ _ _ (w.alloc (.cells #[.slice a l.length cap, .slice mth.a mth.l.length mth.cap, .slice fld.a fld.l.length fld.cap, .slice tpm.a tpm.l.length tpm.cap, .slice tym.a tym.l.length tym.cap, I main] 30))
  have HW := Lib.hid ((Below.refl w.heap.size w).alloc (Nat.le_refl _) (.cells #[.slice a l.length cap, .slice mth.a mth.l.length mth.cap, .slice fld.a fld.l.length fld.cap, .slice tpm.a tpm.l.length tpm.cap, .slice tym.a tym.l.length tym.cap, I main] 30))
  have hz : (w.alloc (.cells #[.slice a l.length cap, .slice mth.a mth.l.length mth.cap, .slice fld.a fld.l.length fld.cap, .slice tpm.a tpm.l.length tpm.cap, .slice tym.a tym.l.length tym.cap, I main] 30)).heap.size = w.heap.size + 1 := by simp
  generalize (w.alloc (.cells #[.slice a l.length cap, .slice mth.a mth.l.length mth.cap, .slice fld.a fld.l.length fld.cap, .slice tpm.a tpm.l.length tpm.cap, .slice tym.a tym.l.length tym.cap, I main] 30)) = wb at *
  have HZ := Lib.hid hz
  clear hz
  go_loopg [9] (l.length + 1) (fun n v wr => ∃ i : Nat, i ≤ l.length ∧ v = .int .i64 i ∧ Hid (n = l.length + 1 - i) ∧ Hid (findM owner name object (l.drop i) i = res) ∧ Hid (Below (w.heap.size + 1) wb wr))
  case atStart => exact ⟨0, by omega, rfl, rfl, HR.out, Below.refl _ _⟩
  case round =>
    obtain ⟨i, hi, rfl, HN, HD, HK⟩ := hrel
    have q0 : wr.cell? ⟨w.heap.size, 0, none⟩ = some (.slice a l.length cap) := (HK.out.cell (by show w.heap.size < _; omega)).trans HB.out
    have hplt : w.heap.size < wr.heap.size := (cell_spot q0).2
    by_cases hlt : i < l.length
    · have d2 : ((i : Int) < (l.length : Int)) := by omega
      obtain ⟨b, o, ha, hokb, hcs⟩ := sl_at HP.out.cls (by show 0 < l.length; omega)
      dsimp only at ha
      subst ha
      have hbl : b < w.heap.size := HO.out b hokb
      obtain ⟨t0, t1, t2, t3, t4, t5, t6, t7, t8, t9, t10, t11, t12⟩ := cls_cells0 ((hcs i hlt).same ((HK.out.block b (by omega)).trans (HW.out.block b hbl)))
      have HD2 : Hid ((if l[i].owner == owner && (l[i].nm.toList == name.toList && ((l[i].kind == 2) == object)) then (i : Int) else findM owner name object (l.drop (i + 1)) (i + 1)) = res) := by
        have := HD.out; rw [List.drop_eq_getElem_cons hlt] at this; exact this
      clear hcs hokb HD hbl
      dsimp only at t0 t1 t2 t3 t4 t5 t6 t7 t8 t9 t10 t11 t12
      generalize l[i] = T at *
      unfold Sl.v at t4 t5 t6 t7 t8 t9 t10 t11
      have hres2 : Hid (if (T.owner == owner) = true ∧ (T.nm.toList == name.toList) = true ∧ ((T.kind == 2) == object) = true then (i : Int) = res else findM owner name object (l.drop (i + 1)) (i + 1) = res) := by
        have h1 := HD2.out
        show if _ then _ else _
        split
        · rename_i h; obtain ⟨e1, e2, e3⟩ := h; rw [e1, e2, e3] at h1; exact h1
        · rename_i h
          rw [if_neg (by simpa using h)] at h1; exact h1
      clear HD2
      have hal : ∀ o, Below (w.heap.size + 1) wb (wr.alloc o) := fun o => HK.out.alloc (by omega) o
      have HAL := Lib.hid hal
      clear hal
      have hL := HL.out
      cases e1 : (T.owner == owner) with
      | false =>
        have h1 := hres2.out
        rw [e1] at h1
        simp only [Bool.false_eq_true, false_and, if_false] at h1
        have H1 := Lib.hid h1
        clear h1 hres2
        go_wp2_with fail
        go_roundg (l.length + 1 - (i + 1))
        case measure => have := HN.out; omega
        case rel => exact ⟨i + 1, by omega, by first | go_num | (rw [IntWalk.wrap64_in _ (by omega)]; go_num), rfl, H1.out, HAL.out _⟩
      | true =>
        cases e2 : (T.nm.toList == name.toList) with
        | false =>
          have h1 := hres2.out
          rw [e2] at h1
          simp only [Bool.false_eq_true, false_and, and_false, if_false] at h1
          have H1 := Lib.hid h1
          clear h1 hres2
          go_wp2_with fail
          go_roundg (l.length + 1 - (i + 1))
          case measure => have := HN.out; omega
          case rel => exact ⟨i + 1, by omega, by first | go_num | (rw [IntWalk.wrap64_in _ (by omega)]; go_num), rfl, H1.out, HAL.out _⟩
        | true =>
          cases e3 : ((T.kind == 2) == object) with
          | false =>
            have h1 := hres2.out
            rw [e3] at h1
            simp only [Bool.false_eq_true, false_and, and_false, if_false] at h1
            have H1 := Lib.hid h1
            clear h1 hres2
            go_wp2_with fail
            go_roundg (l.length + 1 - (i + 1))
            case measure => have := HN.out; omega
            case rel => exact ⟨i + 1, by omega, by first | go_num | (rw [IntWalk.wrap64_in _ (by omega)]; go_num), rfl, H1.out, HAL.out _⟩
          | true =>
            have h1 := hres2.out
            rw [e1, e2, e3] at h1
            simp only [true_and, if_true] at h1
            have H1 := Lib.hid h1
            clear h1 hres2
            go_wp2_with fail
            go_ret
            have h1 := H1.out
            subst h1
            exact ⟨rfl, HW.out.trans ((HAL.out _).mono (by omega))⟩
    · obtain rfl : i = l.length := by omega
      go_wp2_with fail
      go_ret
      have := HD.out
      rw [List.drop_length] at this
      subst this
      exact ⟨rfl, HW.out.trans (HK.out.mono (by omega))⟩
end Go.Proofs.YtfbaikijnjafbaaDoor
