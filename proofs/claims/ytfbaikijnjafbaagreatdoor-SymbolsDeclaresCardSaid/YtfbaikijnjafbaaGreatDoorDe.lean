/- SymbolsDeclares, as a function of what awake gives: the law's own walk. -/
import Derived.Test.YtfbaikijnjafbaaGreatDoorDb
import Derived.Test.YtfbaikijnjafbaaGreatDoorDc
import Derived.Test.YtfbaikijnjafbaaGreatDoorLf
import Derived.Test.YtfbaikijnjafbaaGreatDoorFe
import Derived.Shelf.RegionOpen
namespace Go.Proofs.YtfbaikijnjafbaaGreatDoor
set_option linter.unusedSimpArgs false
set_option linter.unusedVariables false
open Go.RowKit
set_option maxRecDepth 100000

theorem refs_on {w w' : World} {s : Sl (Int × Int)} (h : RefsL (inW w) w s) (hb : Below w.heap.size w w') : RefsL (inW w') w' s :=
  (SlAt.same h (fun k hk => hb.block k hk)).imp (fun k hk => Nat.lt_of_lt_of_le hk hb.size)

set_option maxHeartbeats 800000 in
theorem declares_law (G : World → Prop) (hG : ∀ w w', G w → Below w.heap.size w w' → G w')
    (ha : ∀ w, G w → Calls Tryz.prog 8 #[] w fun e w' => e = .returned (.bool true) ∧ Below w.heap.size w w')
    (p : Prg) (c : Int) (name : ByteArray) (w : World) (hw : G w) (hp : PrgL (inW w) w p) : Calls Tryz.prog 4 #[p.agg, I c, .string name] w fun e w' => e = .returned (.bool true) ∧ Below w.heap.size w w' := by
  have hF := fun (W : World) (hP : PrgL (inW W) W p) => few_any p W hP
  have hC := fun (hf : Fits p.cls.l) (W : World) (hP : PrgL (inW W) W p) => decl12_any p c name W hP (fun k h => h) (fun k hk => (hf.2 k hk).2)
  have hD := fun (hf : Fits p.cls.l) (W : World) (hP : PrgL (inW W) W p) => decl13_any p c name W hP (fun k h => h) (fun k hk => (hf.2 k hk).2)
  have hbw : Below w.heap.size w (w.alloc (.cells #[p.cls.v, p.mth.v, p.fld.v, p.tpm.v, p.tym.v, I p.main] 28)) := (Below.refl w.heap.size w).alloc (Nat.le_refl _) _
  have hPm := fun (W : World) (hb : Below w.heap.size w W) => (hp.same (fun k hk => hb.block k hk)).imp (ok' := inW W) (fun k hk => Nat.lt_of_lt_of_le hk hb.size)
  generalize hdm : declM p c name = DM at *
  clear hdm
  obtain ⟨⟨ca, cap, l⟩, mth, fld, tpm, tym, main⟩ := p
  have hbox : ∀ j, (w.alloc (.cells #[(Sl.mk ca cap l).v, mth.v, fld.v, tpm.v, tym.v, I main] 28)).cell? ⟨w.heap.size, j, none⟩ = #[(Sl.mk ca cap l).v, mth.v, fld.v, tpm.v, tym.v, I main][j]? := fun j => World.cell?_alloc_new w _ 28 j
  have hbz : (w.alloc (.cells #[(Sl.mk ca cap l).v, mth.v, fld.v, tpm.v, tym.v, I main] 28)).heap.size = w.heap.size + 1 := by simp
  have HF := Lib.hid hF
  have HC0 := Lib.hid hC
  have HD0 := Lib.hid hD
  have HA := Lib.hid ha
  have HG := Lib.hid hG
  have HW := Lib.hid hw
  have HPm := Lib.hid hPm
  have HB := Lib.hid hbw
  have HBOX := Lib.hid hbox
  have HBZ := Lib.hid hbz
  clear ha hG hw hp hF hC hD hPm hbw hbox hbz
  unfold Prg.agg Sl.v at *
  dsimp only at HF HC0 HD0 HB HBOX HBZ ⊢
  go_enter Tryz.func4, Tryz.ntmps4
  go_upto_region 1 with fail
  change Code.wp _ _ _ _ (w.alloc (.cells #[.slice ca l.length cap, .slice mth.a mth.l.length mth.cap, .slice fld.a fld.l.length fld.cap, .slice tpm.a tpm.l.length tpm.cap, .slice tym.a tym.l.length tym.cap, I main] 28))
  generalize (w.alloc (.cells #[.slice ca l.length cap, .slice mth.a mth.l.length mth.cap, .slice fld.a fld.l.length fld.cap, .slice tpm.a tpm.l.length tpm.cap, .slice tym.a tym.l.length tym.cap, I main] 28)) = wb at *
  have hbz := HBZ.out
  have x0 := HBOX.out 0
  have x1 := HBOX.out 1
  have x2 := HBOX.out 2
  have x3 := HBOX.out 3
  have x4 := HBOX.out 4
  have x5 := HBOX.out 5
  simp at x0 x1 x2 x3 x4 x5
  go_wp2_with fail
  refine (HF.out wb (HPm.out wb HB.out)).mono ?_
  rintro e wf ⟨bF, rfl, hfit, hb1⟩
  have HFIT := Lib.hid hfit
  have HB1 := Lib.hid hb1
  have hg1 := HG.out _ _ HW.out (HB.out.trans (hb1.mono (by omega)))
  have HG1 := Lib.hid hg1
  clear hb1 x0 x1 x2 x3 x4 x5 hg1 hfit
  have hs1 : wb.heap.size ≤ wf.heap.size := HB1.out.size
  cases bF with
  | false =>
    go_wp2_with (first | (go_at_call 8; refine (HA.out wf HG1.out).mono ?_; rintro e w2 ⟨rfl, hb2⟩))
    go_ret
    exact ⟨rfl, HB.out.trans ((HB1.out.mono (by omega)).trans (hb2.mono (by omega)))⟩
  | true =>
    by_cases hn : 100 < name.size
    · have d1 : decide ((100 : Int) < (name.size : Int)) = true := decide_eq_true (by omega)
      clear hn
      go_wp2_with (first | (go_at_call 8; refine (HA.out wf HG1.out).mono ?_; rintro e w2 ⟨rfl, hb2⟩))
      go_ret
      exact ⟨rfl, HB.out.trans ((HB1.out.mono (by omega)).trans (hb2.mono (by omega)))⟩
    · have d1 : decide ((100 : Int) < (name.size : Int)) = false := decide_eq_false (by omega)
      have HC := Lib.hid (HC0.out (HFIT.out rfl))
      have HD := Lib.hid (HD0.out (HFIT.out rfl))
      clear hn HC0 HD0
      have hTB : ∀ W, Below wb.heap.size wb W → (fun w' => w'.cell? ⟨w.heap.size, 0, none⟩ = some (.slice ca l.length cap) ∧ w'.cell? ⟨w.heap.size, 1, none⟩ = some (.slice mth.a mth.l.length mth.cap) ∧ w'.cell? ⟨w.heap.size, 2, none⟩ = some (.slice fld.a fld.l.length fld.cap) ∧ w'.cell? ⟨w.heap.size, 3, none⟩ = some (.slice tpm.a tpm.l.length tpm.cap) ∧ w'.cell? ⟨w.heap.size, 4, none⟩ = some (.slice tym.a tym.l.length tym.cap) ∧ w'.cell? ⟨w.heap.size, 5, none⟩ = some (I main)) W ∧ G W ∧ PrgL (inW W) W ⟨⟨ca, cap, l⟩, mth, fld, tpm, tym, main⟩ := fun W hb => by
        have hc := fun j => (hb.cell (p := ⟨w.heap.size, j, none⟩) (by show w.heap.size < _; omega)).trans (HBOX.out j)
        exact ⟨⟨hc 0, hc 1, hc 2, hc 3, hc 4, hc 5⟩, HG.out _ _ HW.out (HB.out.trans (hb.mono (by omega))), HPm.out W (HB.out.trans (hb.mono (by omega)))⟩
      have HTB := Lib.hid hTB
      clear hTB
      go_wp2_with fail
      have hq0 : Below wb.heap.size wb wf.drew := below_drewN HB1.out 1
      refine wp_region_held_drew (S := (fun w' => w'.cell? ⟨w.heap.size, 0, none⟩ = some (.slice ca l.length cap) ∧ w'.cell? ⟨w.heap.size, 1, none⟩ = some (.slice mth.a mth.l.length mth.cap) ∧ w'.cell? ⟨w.heap.size, 2, none⟩ = some (.slice fld.a fld.l.length fld.cap) ∧ w'.cell? ⟨w.heap.size, 3, none⟩ = some (.slice tpm.a tpm.l.length tpm.cap) ∧ w'.cell? ⟨w.heap.size, 4, none⟩ = some (.slice tym.a tym.l.length tym.cap) ∧ w'.cell? ⟨w.heap.size, 5, none⟩ = some (I main))) (by kernel_rfl) ?_ (fun hHeld => ?_)
      · exact (HTB.out _ hq0).1
      refine wpAnyH_ready (rs := [0]) (by kernel_rfl) (by simp) (AllReadyH.cons (o := { dst := some 16, op := Op.call { callee := Callee.value (Operand.func 8), args := #[], argTypes := #[] }, type := 4, pos := "law.go:107", after := #[], guard := none }) rfl (fun K hK => ?_) AllReadyH.nil)
      (go_simp; go_at_call 8; refine (HA.out _ (HTB.out _ hq0).2.1).mono ?_; rintro e w1 ⟨rfl, hb1⟩; have hq1 := hq0.trans (hb1.mono hq0.size); dsimp only)
      refine hK.out _ _ (HTB.out _ hq1).1 (fun hHeld => ?_)
      clear hK K
      try simp only [Act.put, List.setIfInBounds_toArray, List.set_cons_zero, List.set_cons_succ]
      refine wpAnyH_take (i := 1) (oi := { dst := some 17, op := Op.move (Operand.tmp 16), type := 4, pos := "law.go:107", after := #[{ on := 0, ground := Ground.data }, { on := 0, ground := Ground.chain }], guard := none }) (v := ?va1) rfl (by kernel_rfl) (by kernel_rfl) (by kernel_rfl) (fun _ _ _ h => h) (Or.inl ⟨by rfl, ?ya1⟩) (by assumption) ?ra1
      case ya1 => (intro w hSw; (try dsimp only at hSw); go_simp; try with_reducible rfl)
      try simp only [Act.put, List.setIfInBounds_toArray, List.set_cons_zero, List.set_cons_succ]
      refine wpAnyH_take (i := 2) (oi := { dst := some 18, op := Op.load 28 (Operand.tmp 3), type := 28, pos := "law.go:107", after := #[{ on := 1, ground := Ground.guard }], guard := some (1, true) }) (v := ?va2) rfl (by kernel_rfl) (by kernel_rfl) (by kernel_rfl) (fun _ _ _ h => h) (Or.inl ⟨by rfl, ?ya2⟩) (by assumption) ?ra2
      case ya2 => (intro w hSw; (try dsimp only at hSw); go_simp; try with_reducible rfl)
      try simp only [Act.put, List.setIfInBounds_toArray, List.set_cons_zero, List.set_cons_succ]
      refine wpAnyH_take (i := 3) (oi := { dst := some 19, op := Op.move (Operand.tmp 1), type := 3, pos := "law.go:107", after := #[{ on := 1, ground := Ground.guard }], guard := some (1, true) }) (v := ?va3) rfl (by kernel_rfl) (by kernel_rfl) (by kernel_rfl) (fun _ _ _ h => h) (Or.inl ⟨by rfl, ?ya3⟩) (by assumption) ?ra3
      case ya3 => (intro w hSw; (try dsimp only at hSw); go_simp; try with_reducible rfl)
      try simp only [Act.put, List.setIfInBounds_toArray, List.set_cons_zero, List.set_cons_succ]
      refine wpAnyH_take (i := 4) (oi := { dst := some 20, op := Op.move (Operand.tmp 2), type := 9, pos := "law.go:107", after := #[{ on := 1, ground := Ground.guard }], guard := some (1, true) }) (v := ?va4) rfl (by kernel_rfl) (by kernel_rfl) (by kernel_rfl) (fun _ _ _ h => h) (Or.inl ⟨by rfl, ?ya4⟩) (by assumption) ?ra4
      case ya4 => (intro w hSw; (try dsimp only at hSw); go_simp; try with_reducible rfl)
      try simp only [Act.put, List.setIfInBounds_toArray, List.set_cons_zero, List.set_cons_succ]
      refine wpAnyH_take (i := 6) (oi := { dst := some 22, op := Op.load 28 (Operand.tmp 3), type := 28, pos := "law.go:107", after := #[{ on := 1, ground := Ground.guard }], guard := some (1, true) }) (v := ?va6) rfl (by kernel_rfl) (by kernel_rfl) (by kernel_rfl) (fun _ _ _ h => h) (Or.inl ⟨by rfl, ?ya6⟩) (by assumption) ?ra6
      case ya6 => (intro w hSw; (try dsimp only at hSw); go_simp; try with_reducible rfl)
      try simp only [Act.put, List.setIfInBounds_toArray, List.set_cons_zero, List.set_cons_succ]
      refine wpAnyH_take (i := 7) (oi := { dst := some 23, op := Op.move (Operand.tmp 1), type := 3, pos := "law.go:107", after := #[{ on := 1, ground := Ground.guard }], guard := some (1, true) }) (v := ?va7) rfl (by kernel_rfl) (by kernel_rfl) (by kernel_rfl) (fun _ _ _ h => h) (Or.inl ⟨by rfl, ?ya7⟩) (by assumption) ?ra7
      case ya7 => (intro w hSw; (try dsimp only at hSw); go_simp; try with_reducible rfl)
      try simp only [Act.put, List.setIfInBounds_toArray, List.set_cons_zero, List.set_cons_succ]
      refine wpAnyH_take (i := 8) (oi := { dst := some 24, op := Op.move (Operand.tmp 2), type := 9, pos := "law.go:107", after := #[{ on := 1, ground := Ground.guard }], guard := some (1, true) }) (v := ?va8) rfl (by kernel_rfl) (by kernel_rfl) (by kernel_rfl) (fun _ _ _ h => h) (Or.inl ⟨by rfl, ?ya8⟩) (by assumption) ?ra8
      case ya8 => (intro w hSw; (try dsimp only at hSw); go_simp; try with_reducible rfl)
      try simp only [Act.put, List.setIfInBounds_toArray, List.set_cons_zero, List.set_cons_succ]
      refine wpAnyH_ready (rs := [5]) (by kernel_rfl) (by simp) (AllReadyH.cons (o := { dst := some 21, op := Op.call { callee := Callee.value (Operand.func 12), args := #[Operand.tmp 18, Operand.tmp 19, Operand.tmp 20], argTypes := #[28, 3, 9] }, type := 38, pos := "law.go:107", after := #[{ on := 2, ground := Ground.data }, { on := 3, ground := Ground.data }, { on := 4, ground := Ground.data }, { on := 1, ground := Ground.chain }, { on := 1, ground := Ground.guard }], guard := some (1, true) }) rfl (fun K hK => ?_) AllReadyH.nil)
      (go_simp; go_at_call 12; refine (HC.out _ (HTB.out _ hq1).2.2).mono ?_; rintro e w2 ⟨s1, hs1, hi1, rfl, hb2⟩; have hq2 := hq1.trans (hb2.mono hq1.size); dsimp only)
      refine hK.out _ _ (HTB.out _ hq2).1 (fun hHeld => ?_)
      clear hK K
      try simp only [Act.put, List.setIfInBounds_toArray, List.set_cons_zero, List.set_cons_succ]
      refine wpAnyH_ready (rs := [9]) (by kernel_rfl) (by simp) (AllReadyH.cons (o := { dst := some 25, op := Op.call { callee := Callee.value (Operand.func 13), args := #[Operand.tmp 22, Operand.tmp 23, Operand.tmp 24], argTypes := #[28, 3, 9] }, type := 38, pos := "law.go:107", after := #[{ on := 6, ground := Ground.data }, { on := 7, ground := Ground.data }, { on := 8, ground := Ground.data }, { on := 5, ground := Ground.chain }, { on := 1, ground := Ground.guard }], guard := some (1, true) }) rfl (fun K hK => ?_) AllReadyH.nil)
      (go_simp; go_at_call 13; refine (HD.out _ (HTB.out _ hq2).2.2).mono ?_; rintro e w3 ⟨s2, hs2, hi2, rfl, hb3⟩; have hq3 := hq2.trans (hb3.mono hq2.size); have hi1 := refs_on hi1 hb3; dsimp only)
      refine hK.out _ _ (HTB.out _ hq3).1 (fun hHeld => ?_)
      clear hK K
      try simp only [Act.put, List.setIfInBounds_toArray, List.set_cons_zero, List.set_cons_succ]
      refine wpAnyH_ready (rs := [10]) (by kernel_rfl) (by simp) (AllReadyH.cons (o := { dst := some 26, op := Op.call { callee := Callee.value (Operand.func 11), args := #[Operand.tmp 21, Operand.tmp 25], argTypes := #[38, 38] }, type := 4, pos := "law.go:107", after := #[{ on := 5, ground := Ground.data }, { on := 9, ground := Ground.data }, { on := 9, ground := Ground.chain }, { on := 1, ground := Ground.guard }], guard := some (1, true) }) rfl (fun K hK => ?_) AllReadyH.nil)
      (go_simp; go_at_call 11; refine (eq11_same (ok := inW w3) s1 s2 _ hi1 hi2 (hs1.out.trans hs2.out.symm)).mono ?_; rintro e w4 ⟨rfl, n4, rfl⟩; have hq4 := below_drewN hq3 n4; dsimp only)
      refine hK.out _ _ (HTB.out _ hq4).1 (fun hHeld => ?_)
      clear hK K
      try simp only [Act.put, List.setIfInBounds_toArray, List.set_cons_zero, List.set_cons_succ]
      refine wpAnyH_take (i := 11) (oi := { dst := some 27, op := Op.pick (Operand.tmp 17) (Operand.tmp 26) (Operand.const (Value.bool false)), type := 4, pos := "law.go:107", after := #[{ on := 1, ground := Ground.data }, { on := 10, ground := Ground.data }], guard := none }) (v := ?va11) rfl (by kernel_rfl) (by kernel_rfl) (by kernel_rfl) (fun _ _ _ h => h) (Or.inl ⟨by rfl, ?ya11⟩) (by assumption) ?ra11
      case ya11 => (intro w hSw; (try dsimp only at hSw); go_simp; try with_reducible rfl)
      try simp only [Act.put, List.setIfInBounds_toArray, List.set_cons_zero, List.set_cons_succ]
      refine wpAnyH_take (i := 12) (oi := { dst := some 6, op := Op.assign (Operand.tmp 27), type := 4, pos := "law.go:107", after := #[{ on := 11, ground := Ground.data }, { on := 10, ground := Ground.chain }, { on := 0, ground := Ground.phase }, { on := 1, ground := Ground.phase }, { on := 2, ground := Ground.phase }, { on := 3, ground := Ground.phase }, { on := 4, ground := Ground.phase }, { on := 5, ground := Ground.phase }, { on := 6, ground := Ground.phase }, { on := 7, ground := Ground.phase }, { on := 8, ground := Ground.phase }, { on := 9, ground := Ground.phase }, { on := 10, ground := Ground.phase }, { on := 11, ground := Ground.phase }], guard := none }) (v := ?va12) rfl (by kernel_rfl) (by kernel_rfl) (by kernel_rfl) (fun _ _ _ h => h) (Or.inl ⟨by rfl, ?ya12⟩) (by assumption) ?ra12
      case ya12 => (intro w hSw; (try dsimp only at hSw); go_simp; try with_reducible rfl)
      try simp only [Act.put, List.setIfInBounds_toArray, List.set_cons_zero, List.set_cons_succ]
      refine wpAnyH_done (by kernel_rfl) ?_ _
      go_wp2_with fail
      go_ret
      exact ⟨congrArg (fun b => Ending.returned (Value.bool b)) (by simp), HB.out.trans (hq4.mono (by omega))⟩
end Go.Proofs.YtfbaikijnjafbaaGreatDoor
