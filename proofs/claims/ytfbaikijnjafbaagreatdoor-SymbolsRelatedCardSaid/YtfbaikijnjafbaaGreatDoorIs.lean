/- The reference's Inside is insideR. -/
import Derived.Test.YtfbaikijnjafbaaGreatDoorLf
namespace Go.Proofs.YtfbaikijnjafbaaGreatDoor
set_option linter.unusedSimpArgs false
set_option linter.unusedVariables false
open Go.RowKit
set_option maxRecDepth 100000

def insL (l : List Cls) (outer : Int) : Nat → Nat → Bool
  | 0, _ => false
  | n + 1, x => match l[x]? with
    | none => false
    | some c => if inM c.owner l.length then (if c.owner == outer then true else insL l outer n c.owner.toNat) else false
def insideR (l : List Cls) (inner outer : Int) : Bool := inM inner l.length && (inM outer l.length && insL l outer l.length inner.toNat)

theorem inM_nat {i : Int} {n : Nat} (h : inM i n = true) : ∃ y : Nat, i = (y : Int) ∧ i.toNat = y ∧ y < n := by
  unfold inM at h
  rw [Bool.and_eq_true, decide_eq_true_eq, decide_eq_true_eq] at h
  exact ⟨i.toNat, by omega, rfl, by omega⟩

set_option maxHeartbeats 800000 in
theorem inside28_any {ok : Nat → Prop} (p : Prg) (inner outer : Int) (w : World) (hp : PrgL ok w p) (hok : ∀ k, ok k → k < w.heap.size) :
    Calls Tryz.prog 20 #[p.agg, I inner, I outer] w fun e w' => e = .returned (.bool (insideR p.cls.l inner outer)) ∧ Below w.heap.size w w' := by
  obtain ⟨⟨a, cap, l⟩, mth, fld, tpm, tym, main⟩ := p
  have hl : l.length ≤ 140737488355328 := by
    have h1 := hp.cls.1; have h2 := hp.cls.2.1
    dsimp only at h1 h2
    omega
  have HP := Lib.hid hp
  have HL := Lib.hid hl
  have HO := Lib.hid hok
  clear hp hl hok
  unfold Prg.agg Sl.v
  dsimp only
  generalize hres : insideR l inner outer = res
  have HR := Lib.hid hres
  clear hres
  have hbox : (w.alloc (.cells #[.slice a l.length cap, .slice mth.a mth.l.length mth.cap, .slice fld.a fld.l.length fld.cap, .slice tpm.a tpm.l.length tpm.cap, .slice tym.a tym.l.length tym.cap, I main] 28)).cell? ⟨w.heap.size, 0, none⟩ = some (.slice a l.length cap) := by
    rw [World.cell?_alloc_new]; rfl
  have HB := Lib.hid hbox
  clear hbox
  have HW := Lib.hid ((Below.refl w.heap.size w).alloc (Nat.le_refl _) (.cells #[.slice a l.length cap, .slice mth.a mth.l.length mth.cap, .slice fld.a fld.l.length fld.cap, .slice tpm.a tpm.l.length tpm.cap, .slice tym.a tym.l.length tym.cap, I main] 28))
  go_enter Tryz.func20, Tryz.ntmps20
  go_upto_region 1 with fail
  change Code.wp _ _ _ _ (w.alloc (.cells #[.slice a l.length cap, .slice mth.a mth.l.length mth.cap, .slice fld.a fld.l.length fld.cap, .slice tpm.a tpm.l.length tpm.cap, .slice tym.a tym.l.length tym.cap, I main] 28))
  generalize (w.alloc (.cells #[.slice a l.length cap, .slice mth.a mth.l.length mth.cap, .slice fld.a fld.l.length fld.cap, .slice tpm.a tpm.l.length tpm.cap, .slice tym.a tym.l.length tym.cap, I main] 28)) = wb at *
  have q0 := HB.out
  cases e1 : inM inner l.length with
  | false =>
    obtain rfl : false = res := by have := HR.out; unfold insideR at this; rw [e1, Bool.false_and] at this; exact this
    clear HR
    go_wp2_with (first | (go_at_call 40; refine (in54_any _ _ _).mono ?_; rintro e w2 ⟨rfl, rfl⟩; dsimp only; rw [e1]))
    go_ret
    exact ⟨rfl, HW.out⟩
  | true =>
    cases e2 : inM outer l.length with
    | false =>
      obtain rfl : false = res := by have := HR.out; unfold insideR at this; rw [e1, e2, Bool.false_and, Bool.and_false] at this; exact this
      clear HR
      go_wp2_with (first | (go_at_call 40; refine (in54_any _ _ _).mono ?_; rintro e w2 ⟨rfl, rfl⟩; dsimp only; (first | rw [e1] | rw [e2])))
      go_ret
      exact ⟨rfl, HW.out⟩
    | true =>
      have r1 : insL l outer l.length inner.toNat = res := by have := HR.out; unfold insideR at this; rw [e1, e2, Bool.true_and, Bool.true_and] at this; exact this
      obtain ⟨x0, rfl, hx, hx0⟩ := inM_nat e1
      rw [hx] at r1
      have R1 := Lib.hid r1
      have X0 := Lib.hid hx0
      clear HR hx r1 hx0
      go_wp2_with (first | (go_at_call 40; refine (in54_any _ _ _).mono ?_; rintro e w2 ⟨rfl, rfl⟩; dsimp only; (first | rw [e1] | rw [e2])))
      go_loopg [1, 7] (l.length + 1) (fun n v1 v7 wr => ∃ k x : Nat, k ≤ l.length ∧ Hid (x < l.length) ∧ v1 = .int .i64 x ∧ v7 = .int .i64 k ∧ Hid (n = l.length + 1 - k) ∧ Hid (insL l outer (l.length - k) x = res) ∧ wr = wb)
      case atStart => exact ⟨0, x0, by omega, X0, rfl, rfl, rfl, R1, rfl⟩
      case round =>
        obtain ⟨k, x, hk, HX, rfl, rfl, HN, HD, rfl⟩ := hrel
        have hL := HL.out
        by_cases hlt : k < l.length
        · have d2 : ((k : Int) < (l.length : Int)) := by omega
          have hxl := HX.out
          obtain ⟨b, o, ha, hokb, hcs⟩ := sl_at HP.out.cls (by show 0 < l.length; omega)
          dsimp only at ha
          subst ha
          have hbl : b < w.heap.size := HO.out b hokb
          obtain ⟨t0, t1, t2, t3, t4, t5, t6, t7, t8, t9, t10, t11, t12⟩ := cls_cells0 ((hcs x hxl).same (HW.out.block b hbl))
          have HD2 : Hid ((if inM l[x].owner l.length then (if l[x].owner == outer then true else insL l outer (l.length - (k + 1)) l[x].owner.toNat) else false) = res) := by
            have h := HD.out
            obtain ⟨m, hm⟩ : ∃ m, l.length - k = m + 1 := ⟨l.length - k - 1, by omega⟩
            rw [hm, insL, List.getElem?_eq_getElem hxl] at h
            have hm2 : l.length - (k + 1) = m := by omega
            rw [hm2]
            exact h
          clear hcs hokb HD hbl t0 t1 t2 t4 t5 t6 t7 t8 t9 t10 t11 t12
          dsimp only at t3
          generalize l[x] = T at *
          cases e3 : inM T.owner l.length with
          | false =>
            obtain rfl : false = res := by have := HD2.out; rw [e3] at this; exact this
            clear HD2
            go_wp2_with (first | (go_at_call 40; refine (in54_any _ _ _).mono ?_; rintro e w2 ⟨rfl, rfl⟩; dsimp only; rw [e3]))
            go_ret
            exact ⟨rfl, HW.out⟩
          | true =>
            obtain ⟨y, hy, hy2, hyl⟩ := inM_nat e3
            have r0 := HD2.out
            rw [e3, if_pos rfl] at r0
            cases e4 : (T.owner == outer) with
            | true =>
              obtain rfl : true = res := by rw [e4] at r0; exact r0
              clear HD2 r0 hy hy2 hyl
              go_wp2_with (first | (go_at_call 40; refine (in54_any _ _ _).mono ?_; rintro e w2 ⟨rfl, rfl⟩; dsimp only; rw [e3]))
              go_ret
              exact ⟨rfl, HW.out⟩
            | false =>
              have r1 : insL l outer (l.length - (k + 1)) y = res := by rw [e4, hy2] at r0; exact r0
              have R1 := Lib.hid r1
              have HY := Lib.hid hy
              have HYL := Lib.hid hyl
              clear HD2 r0 r1 hy hy2 hyl
              go_wp2_with (first | (go_at_call 40; refine (in54_any _ _ _).mono ?_; rintro e w2 ⟨rfl, rfl⟩; dsimp only; rw [e3]))
              go_roundg (l.length + 1 - (k + 1))
              case measure => have := HN.out; omega
              case rel => exact ⟨k + 1, y, by omega, HYL, congrArg (Value.int .i64) HY.out, by first | go_num | (rw [IntWalk.wrap64_in _ (by omega)]; go_num), rfl, R1, rfl⟩
        · obtain rfl : k = l.length := by omega
          obtain rfl : false = res := by have := HD.out; rw [Nat.sub_self] at this; exact this
          go_wp2_with fail
          go_ret
          exact ⟨rfl, HW.out⟩
end Go.Proofs.YtfbaikijnjafbaaGreatDoor
