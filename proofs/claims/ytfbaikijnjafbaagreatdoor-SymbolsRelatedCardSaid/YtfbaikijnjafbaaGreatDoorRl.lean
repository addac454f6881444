/- SymbolsRelated, as a function of what awake gives: the law's own walk. -/
import Derived.Test.YtfbaikijnjafbaaGreatDoorQc
import Derived.Test.YtfbaikijnjafbaaGreatDoorIs
import Derived.Test.YtfbaikijnjafbaaGreatDoorLf
import Derived.Test.YtfbaikijnjafbaaGreatDoorEq
import Derived.Shelf.RegionOpen
namespace Go.Proofs.YtfbaikijnjafbaaGreatDoor
set_option linter.unusedSimpArgs false
set_option linter.unusedVariables false
open Go.RowKit
set_option maxRecDepth 100000

theorem ints_in {ok : Nat → Prop} {w : World} {s : Sl Int} (h : IntsL ok w s) : IntsL (inW w) w s := by
  refine ⟨⟨h.1.1, h.1.2.1, ?_⟩, h.2⟩
  rcases h.1.2.2 with h0 | ⟨b, o, ha, _, hc⟩
  · exact .inl h0
  · cases hl : s.l with
    | nil => exact .inl rfl
    | cons x r =>
      have := hc 0 (by rw [hl]; simp) 0 (by simp)
      rw [← hl]
      refine .inr ⟨b, o, ha, ?_, hc⟩
      have h1 : w.cell? ⟨b, o + 0 * 1 + 0, none⟩ = some (I (s.l[0]'(by rw [hl]; simp))) := this
      exact (cell_spot h1).2
theorem insL_out (l : List Cls) (outer : Int) : ∀ (n x : Nat), insL l outer n x = (outL l n x).contains outer
  | 0, x => by rw [insL, outL]; rfl
  | n + 1, x => by
    rw [insL, outL]
    cases l[x]? with
    | none => rfl
    | some c =>
      dsimp only
      cases inM c.owner l.length with
      | false => rfl
      | true =>
        rw [if_pos rfl, if_pos rfl, List.contains_cons, insL_out l outer n]
        cases he : c.owner == outer with
        | true =>
          have : c.owner = outer := by simpa using he
          subst this
          simp
        | false =>
          have h1 : c.owner ≠ outer := by simpa using he
          have h2 : (outer == c.owner) = false := by simpa using fun e => h1 e.symm
          rw [h2]
          simp
theorem inside_same (l : List Cls) (a b : Int) : insideR l a b = insideM l a b := by
  unfold insideR insideM
  rw [insL_out]

set_option maxHeartbeats 1600000 in
theorem related_law (G : World → Prop) (hG : ∀ w w', G w → Below w.heap.size w w' → G w')
    (ha : ∀ w, G w → Calls Tryz.prog 8 #[] w fun e w' => e = .returned (.bool true) ∧ Below w.heap.size w w')
    (p : Prg) (a b : Int) (w : World) (hw : G w) (hp : PrgL (inW w) w p) (hwa : wf a) : Calls Tryz.prog 5 #[p.agg, I a, I b] w fun e w' => e = .returned (.bool true) ∧ Below w.heap.size w w' := by
  have hF := fun (W : World) (hP : PrgL (inW W) W p) => few_any p W hP
  have hC := fun (W : World) (hP : PrgL (inW W) W p) => child15_any p a W hP (fun k h => h)
  have hD := fun (W : World) (hP : PrgL (inW W) W p) => child16_any p a W hP (fun k h => h)
  have hE : ∀ (W : World) (hP : PrgL (inW W) W p), Calls Tryz.prog 17 #[p.agg, I a] W fun e w' => ∃ s : Sl Int, Hid (s.l = ancM p.cls.l a) ∧ IntsL (inW w') w' s ∧ e = .returned s.v ∧ Below W.heap.size W w' := fun W hP => (anc14_any p a W hP (fun k h => h)).mono fun e w' ⟨s, h1, h2, h3, h4⟩ => ⟨s, h1, ints_in h2, h3, h4⟩
  have hF2 := fun (W : World) (hP : PrgL (inW W) W p) => anc18_any p a W hP (fun k h => h) hwa
  have hI : ∀ (W : World) (hP : PrgL (inW W) W p), Calls Tryz.prog 19 #[p.agg, I a, I b] W fun e w' => e = .returned (.bool (insideM p.cls.l a b)) ∧ Below W.heap.size W w' := fun W hP => inside15_any p a b W hP (fun k h => h)
  have hR : ∀ (W : World) (hP : PrgL (inW W) W p), Calls Tryz.prog 20 #[p.agg, I a, I b] W fun e w' => e = .returned (.bool (insideM p.cls.l a b)) ∧ Below W.heap.size W w' := fun W hP => by
    have := inside28_any p a b W hP (fun k h => h)
    rwa [inside_same] at this
  have hbw : Below w.heap.size w (w.alloc (.cells #[p.cls.v, p.mth.v, p.fld.v, p.tpm.v, p.tym.v, I p.main] 28)) := (Below.refl w.heap.size w).alloc (Nat.le_refl _) _
  have hPm := fun (W : World) (hb : Below w.heap.size w W) => (hp.same (fun k hk => hb.block k hk)).imp (ok' := inW W) (fun k hk => Nat.lt_of_lt_of_le hk hb.size)
  generalize insideM p.cls.l a b = IN at *
  generalize childM p.cls.l a = CH at *
  generalize ancM p.cls.l a = AN at *
  obtain ⟨⟨ca, cap, l⟩, mth, fld, tpm, tym, main⟩ := p
  have hbox : ∀ j, (w.alloc (.cells #[(Sl.mk ca cap l).v, mth.v, fld.v, tpm.v, tym.v, I main] 28)).cell? ⟨w.heap.size, j, none⟩ = #[(Sl.mk ca cap l).v, mth.v, fld.v, tpm.v, tym.v, I main][j]? := fun j => World.cell?_alloc_new w _ 28 j
  have hbz : (w.alloc (.cells #[(Sl.mk ca cap l).v, mth.v, fld.v, tpm.v, tym.v, I main] 28)).heap.size = w.heap.size + 1 := by simp
  have HF := Lib.hid hF
  have HR := Lib.hid hR
  have HI := Lib.hid hI
  have HC := Lib.hid hC
  have HD := Lib.hid hD
  have HE := Lib.hid hE
  have HF2 := Lib.hid hF2
  have HA := Lib.hid ha
  have HG := Lib.hid hG
  have HW := Lib.hid hw
  have HPm := Lib.hid hPm
  have HB := Lib.hid hbw
  have HBOX := Lib.hid hbox
  have HBZ := Lib.hid hbz
  clear ha hG hw hp hF hR hI hC hD hE hF2 hPm hbw hbox hbz hwa
  unfold Prg.agg Sl.v at HF HR HI HC HD HE HF2 HB HBOX HBZ ⊢
  dsimp only at HF HR HI HC HD HE HF2 HB HBOX HBZ ⊢
  go_enter Tryz.func5, Tryz.ntmps5
  go_upto_region 1 with fail
  change Code.wp _ _ _ _ (w.alloc (.cells #[.slice ca l.length cap, .slice mth.a mth.l.length mth.cap, .slice fld.a fld.l.length fld.cap, .slice tpm.a tpm.l.length tpm.cap, .slice tym.a tym.l.length tym.cap, I main] 28))
  generalize (w.alloc (.cells #[.slice ca l.length cap, .slice mth.a mth.l.length mth.cap, .slice fld.a fld.l.length fld.cap, .slice tpm.a tpm.l.length tpm.cap, .slice tym.a tym.l.length tym.cap, I main] 28)) = wb at *
  have hbz := HBZ.out
  have x0 := HBOX.out 0
  have x1 := HBOX.out 1
  have x2 := HBOX.out 2
  have x3 := HBOX.out 3
  have x4 := HBOX.out 4
  have x5 := HBOX.out 5
  simp at x0 x1 x2 x3 x4 x5
  go_wp2_with fail
  refine (HF.out wb (HPm.out wb HB.out)).mono ?_
  rintro e wf ⟨bF, rfl, _, hb1⟩
  have HB1 := Lib.hid hb1
  have hg1 := HG.out _ _ HW.out (HB.out.trans (hb1.mono (by omega)))
  have HG1 := Lib.hid hg1
  clear hb1 x0 x1 x2 x3 x4 x5 hg1
  have hs1 : wb.heap.size ≤ wf.heap.size := HB1.out.size
  cases bF with
  | false =>
    go_wp2_with (first | (go_at_call 8; refine (HA.out wf HG1.out).mono ?_; rintro e w2 ⟨rfl, hb2⟩))
    go_ret
    exact ⟨rfl, HB.out.trans ((HB1.out.mono (by omega)).trans (hb2.mono (by omega)))⟩
  | true =>
    have hTB : ∀ W, Below wb.heap.size wb W → (fun w' => w'.cell? ⟨w.heap.size, 0, none⟩ = some (.slice ca l.length cap) ∧ w'.cell? ⟨w.heap.size, 1, none⟩ = some (.slice mth.a mth.l.length mth.cap) ∧ w'.cell? ⟨w.heap.size, 2, none⟩ = some (.slice fld.a fld.l.length fld.cap) ∧ w'.cell? ⟨w.heap.size, 3, none⟩ = some (.slice tpm.a tpm.l.length tpm.cap) ∧ w'.cell? ⟨w.heap.size, 4, none⟩ = some (.slice tym.a tym.l.length tym.cap) ∧ w'.cell? ⟨w.heap.size, 5, none⟩ = some (I main)) W ∧ G W ∧ PrgL (inW W) W ⟨⟨ca, cap, l⟩, mth, fld, tpm, tym, main⟩ := fun W hb => by
      have hc := fun j => (hb.cell (p := ⟨w.heap.size, j, none⟩) (by show w.heap.size < _; omega)).trans (HBOX.out j)
      exact ⟨⟨hc 0, hc 1, hc 2, hc 3, hc 4, hc 5⟩, HG.out _ _ HW.out (HB.out.trans (hb.mono (by omega))), HPm.out W (HB.out.trans (hb.mono (by omega)))⟩
    have HTB := Lib.hid hTB
    clear hTB
    go_wp2_with fail
    have hq0 : Below wb.heap.size wb wf.drew := below_drewN HB1.out 1
    refine wp_region_held_drew (S := (fun w' => w'.cell? ⟨w.heap.size, 0, none⟩ = some (.slice ca l.length cap) ∧ w'.cell? ⟨w.heap.size, 1, none⟩ = some (.slice mth.a mth.l.length mth.cap) ∧ w'.cell? ⟨w.heap.size, 2, none⟩ = some (.slice fld.a fld.l.length fld.cap) ∧ w'.cell? ⟨w.heap.size, 3, none⟩ = some (.slice tpm.a tpm.l.length tpm.cap) ∧ w'.cell? ⟨w.heap.size, 4, none⟩ = some (.slice tym.a tym.l.length tym.cap) ∧ w'.cell? ⟨w.heap.size, 5, none⟩ = some (I main))) (by kernel_rfl) ?_ (fun hHeld => ?_)
    · exact (HTB.out _ hq0).1
    refine wpAnyH_ready (rs := [0]) (by kernel_rfl) (by simp) (AllReadyH.cons (o := { dst := some 11, op := Op.call { callee := Callee.value (Operand.func 8), args := #[], argTypes := #[] }, type := 4, pos := "law.go:115", after := #[], guard := none }) rfl (fun K hK => ?_) AllReadyH.nil)
    (go_simp; go_at_call 8; refine (HA.out _ (HTB.out _ hq0).2.1).mono ?_; rintro e w1 ⟨rfl, hb1⟩; have hq1 := hq0.trans (hb1.mono hq0.size); dsimp only)
    refine hK.out _ _ (HTB.out _ hq1).1 (fun hHeld => ?_)
    clear hK K
    try simp only [Act.put, List.setIfInBounds_toArray, List.set_cons_zero, List.set_cons_succ]
    refine wpAnyH_take (i := 1) (oi := { dst := some 12, op := Op.move (Operand.tmp 11), type := 4, pos := "law.go:115", after := #[{ on := 0, ground := Ground.data }, { on := 0, ground := Ground.chain }], guard := none }) (v := ?va1) rfl (by kernel_rfl) (by kernel_rfl) (by kernel_rfl) (fun _ _ _ h => h) (Or.inl ⟨by rfl, ?ya1⟩) (by assumption) ?ra1
    case ya1 => (intro w hSw; (try dsimp only at hSw); go_simp; try with_reducible rfl)
    try simp only [Act.put, List.setIfInBounds_toArray, List.set_cons_zero, List.set_cons_succ]
    refine wpAnyH_take (i := 2) (oi := { dst := some 13, op := Op.load 28 (Operand.tmp 3), type := 28, pos := "law.go:115", after := #[{ on := 1, ground := Ground.guard }], guard := some (1, true) }) (v := ?va2) rfl (by kernel_rfl) (by kernel_rfl) (by kernel_rfl) (fun _ _ _ h => h) (Or.inl ⟨by rfl, ?ya2⟩) (by assumption) ?ra2
    case ya2 => (intro w hSw; (try dsimp only at hSw); go_simp; try with_reducible rfl)
    try simp only [Act.put, List.setIfInBounds_toArray, List.set_cons_zero, List.set_cons_succ]
    refine wpAnyH_take (i := 3) (oi := { dst := some 14, op := Op.move (Operand.tmp 1), type := 3, pos := "law.go:115", after := #[{ on := 1, ground := Ground.guard }], guard := some (1, true) }) (v := ?va3) rfl (by kernel_rfl) (by kernel_rfl) (by kernel_rfl) (fun _ _ _ h => h) (Or.inl ⟨by rfl, ?ya3⟩) (by assumption) ?ra3
    case ya3 => (intro w hSw; (try dsimp only at hSw); go_simp; try with_reducible rfl)
    try simp only [Act.put, List.setIfInBounds_toArray, List.set_cons_zero, List.set_cons_succ]
    refine wpAnyH_take (i := 5) (oi := { dst := some 16, op := Op.load 28 (Operand.tmp 3), type := 28, pos := "law.go:115", after := #[{ on := 1, ground := Ground.guard }], guard := some (1, true) }) (v := ?va5) rfl (by kernel_rfl) (by kernel_rfl) (by kernel_rfl) (fun _ _ _ h => h) (Or.inl ⟨by rfl, ?ya5⟩) (by assumption) ?ra5
    case ya5 => (intro w hSw; (try dsimp only at hSw); go_simp; try with_reducible rfl)
    try simp only [Act.put, List.setIfInBounds_toArray, List.set_cons_zero, List.set_cons_succ]
    refine wpAnyH_take (i := 6) (oi := { dst := some 17, op := Op.move (Operand.tmp 1), type := 3, pos := "law.go:115", after := #[{ on := 1, ground := Ground.guard }], guard := some (1, true) }) (v := ?va6) rfl (by kernel_rfl) (by kernel_rfl) (by kernel_rfl) (fun _ _ _ h => h) (Or.inl ⟨by rfl, ?ya6⟩) (by assumption) ?ra6
    case ya6 => (intro w hSw; (try dsimp only at hSw); go_simp; try with_reducible rfl)
    try simp only [Act.put, List.setIfInBounds_toArray, List.set_cons_zero, List.set_cons_succ]
    refine wpAnyH_ready (rs := [4]) (by kernel_rfl) (by simp) (AllReadyH.cons (o := { dst := some 15, op := Op.call { callee := Callee.value (Operand.func 15), args := #[Operand.tmp 13, Operand.tmp 14], argTypes := #[28, 3] }, type := 44, pos := "law.go:115", after := #[{ on := 2, ground := Ground.data }, { on := 3, ground := Ground.data }, { on := 1, ground := Ground.chain }, { on := 1, ground := Ground.guard }], guard := some (1, true) }) rfl (fun K hK => ?_) AllReadyH.nil)
    (go_simp; go_at_call 15; refine (HC.out _ (HTB.out _ hq1).2.2).mono ?_; rintro e w2 ⟨s1, hs1, hi1, rfl, hb2⟩; have hq2 := hq1.trans (hb2.mono hq1.size); dsimp only)
    refine hK.out _ _ (HTB.out _ hq2).1 (fun hHeld => ?_)
    clear hK K
    try simp only [Act.put, List.setIfInBounds_toArray, List.set_cons_zero, List.set_cons_succ]
    refine wpAnyH_ready (rs := [7]) (by kernel_rfl) (by simp) (AllReadyH.cons (o := { dst := some 18, op := Op.call { callee := Callee.value (Operand.func 16), args := #[Operand.tmp 16, Operand.tmp 17], argTypes := #[28, 3] }, type := 44, pos := "law.go:115", after := #[{ on := 5, ground := Ground.data }, { on := 6, ground := Ground.data }, { on := 4, ground := Ground.chain }, { on := 1, ground := Ground.guard }], guard := some (1, true) }) rfl (fun K hK => ?_) AllReadyH.nil)
    (go_simp; go_at_call 16; refine (HD.out _ (HTB.out _ hq2).2.2).mono ?_; rintro e w3 ⟨s2, hs2, hi2, rfl, hb3⟩; have hq3 := hq2.trans (hb3.mono hq2.size); have hi1 := ints_on hi1 hb3; dsimp only)
    refine hK.out _ _ (HTB.out _ hq3).1 (fun hHeld => ?_)
    clear hK K
    try simp only [Act.put, List.setIfInBounds_toArray, List.set_cons_zero, List.set_cons_succ]
    refine wpAnyH_ready (rs := [8]) (by kernel_rfl) (by simp) (AllReadyH.cons (o := { dst := some 19, op := Op.call { callee := Callee.value (Operand.func 14), args := #[Operand.tmp 15, Operand.tmp 18], argTypes := #[44, 44] }, type := 4, pos := "law.go:115", after := #[{ on := 4, ground := Ground.data }, { on := 7, ground := Ground.data }, { on := 7, ground := Ground.chain }, { on := 1, ground := Ground.guard }], guard := some (1, true) }) rfl (fun K hK => ?_) AllReadyH.nil)
    (go_simp; go_at_call 14; refine (eq22_any (ok := inW w3) s1 s2 _ hi1 hi2).mono ?_; rintro e w4 ⟨rfl, n4, rfl⟩; have hq4 := below_drewN hq3 n4; have he : eqM s1.l s2.l = true := (by rw [hs1.out, hs2.out, eqM_eq]; simp); rw [he]; dsimp only)
    refine hK.out _ _ (HTB.out _ hq4).1 (fun hHeld => ?_)
    clear hK K
    try simp only [Act.put, List.setIfInBounds_toArray, List.set_cons_zero, List.set_cons_succ]
    refine wpAnyH_take (i := 9) (oi := { dst := some 20, op := Op.pick (Operand.tmp 12) (Operand.tmp 19) (Operand.const (Value.bool false)), type := 4, pos := "law.go:115", after := #[{ on := 1, ground := Ground.data }, { on := 8, ground := Ground.data }], guard := none }) (v := ?va9) rfl (by kernel_rfl) (by kernel_rfl) (by kernel_rfl) (fun _ _ _ h => h) (Or.inl ⟨by rfl, ?ya9⟩) (by assumption) ?ra9
    case ya9 => (intro w hSw; (try dsimp only at hSw); go_simp; try with_reducible rfl)
    try simp only [Act.put, List.setIfInBounds_toArray, List.set_cons_zero, List.set_cons_succ]
    refine wpAnyH_take (i := 10) (oi := { dst := some 21, op := Op.move (Operand.tmp 20), type := 4, pos := "law.go:115", after := #[{ on := 9, ground := Ground.data }, { on := 8, ground := Ground.chain }], guard := none }) (v := ?va10) rfl (by kernel_rfl) (by kernel_rfl) (by kernel_rfl) (fun _ _ _ h => h) (Or.inl ⟨by rfl, ?ya10⟩) (by assumption) ?ra10
    case ya10 => (intro w hSw; (try dsimp only at hSw); go_simp; try with_reducible rfl)
    try simp only [Act.put, List.setIfInBounds_toArray, List.set_cons_zero, List.set_cons_succ]
    refine wpAnyH_take (i := 11) (oi := { dst := some 22, op := Op.load 28 (Operand.tmp 3), type := 28, pos := "law.go:115", after := #[{ on := 10, ground := Ground.guard }], guard := some (10, true) }) (v := ?va11) rfl (by kernel_rfl) (by kernel_rfl) (by kernel_rfl) (fun _ _ _ h => h) (Or.inl ⟨by rfl, ?ya11⟩) (by assumption) ?ra11
    case ya11 => (intro w hSw; (try dsimp only at hSw); go_simp; try with_reducible rfl)
    try simp only [Act.put, List.setIfInBounds_toArray, List.set_cons_zero, List.set_cons_succ]
    refine wpAnyH_take (i := 12) (oi := { dst := some 23, op := Op.move (Operand.tmp 1), type := 3, pos := "law.go:115", after := #[{ on := 10, ground := Ground.guard }], guard := some (10, true) }) (v := ?va12) rfl (by kernel_rfl) (by kernel_rfl) (by kernel_rfl) (fun _ _ _ h => h) (Or.inl ⟨by rfl, ?ya12⟩) (by assumption) ?ra12
    case ya12 => (intro w hSw; (try dsimp only at hSw); go_simp; try with_reducible rfl)
    try simp only [Act.put, List.setIfInBounds_toArray, List.set_cons_zero, List.set_cons_succ]
    refine wpAnyH_take (i := 14) (oi := { dst := some 25, op := Op.load 28 (Operand.tmp 3), type := 28, pos := "law.go:115", after := #[{ on := 10, ground := Ground.guard }], guard := some (10, true) }) (v := ?va14) rfl (by kernel_rfl) (by kernel_rfl) (by kernel_rfl) (fun _ _ _ h => h) (Or.inl ⟨by rfl, ?ya14⟩) (by assumption) ?ra14
    case ya14 => (intro w hSw; (try dsimp only at hSw); go_simp; try with_reducible rfl)
    try simp only [Act.put, List.setIfInBounds_toArray, List.set_cons_zero, List.set_cons_succ]
    refine wpAnyH_take (i := 15) (oi := { dst := some 26, op := Op.move (Operand.tmp 1), type := 3, pos := "law.go:115", after := #[{ on := 10, ground := Ground.guard }], guard := some (10, true) }) (v := ?va15) rfl (by kernel_rfl) (by kernel_rfl) (by kernel_rfl) (fun _ _ _ h => h) (Or.inl ⟨by rfl, ?ya15⟩) (by assumption) ?ra15
    case ya15 => (intro w hSw; (try dsimp only at hSw); go_simp; try with_reducible rfl)
    try simp only [Act.put, List.setIfInBounds_toArray, List.set_cons_zero, List.set_cons_succ]
    refine wpAnyH_ready (rs := [13]) (by kernel_rfl) (by simp) (AllReadyH.cons (o := { dst := some 24, op := Op.call { callee := Callee.value (Operand.func 17), args := #[Operand.tmp 22, Operand.tmp 23], argTypes := #[28, 3] }, type := 44, pos := "law.go:115", after := #[{ on := 11, ground := Ground.data }, { on := 12, ground := Ground.data }, { on := 10, ground := Ground.chain }, { on := 10, ground := Ground.guard }], guard := some (10, true) }) rfl (fun K hK => ?_) AllReadyH.nil)
    (go_simp; go_at_call 17; refine (HE.out _ (HTB.out _ hq4).2.2).mono ?_; rintro e w5 ⟨s3, hs3, hi3, rfl, hb5⟩; have hq5 := hq4.trans (hb5.mono hq4.size); dsimp only)
    refine hK.out _ _ (HTB.out _ hq5).1 (fun hHeld => ?_)
    clear hK K
    try simp only [Act.put, List.setIfInBounds_toArray, List.set_cons_zero, List.set_cons_succ]
    refine wpAnyH_ready (rs := [16]) (by kernel_rfl) (by simp) (AllReadyH.cons (o := { dst := some 27, op := Op.call { callee := Callee.value (Operand.func 18), args := #[Operand.tmp 25, Operand.tmp 26], argTypes := #[28, 3] }, type := 44, pos := "law.go:115", after := #[{ on := 14, ground := Ground.data }, { on := 15, ground := Ground.data }, { on := 13, ground := Ground.chain }, { on := 10, ground := Ground.guard }], guard := some (10, true) }) rfl (fun K hK => ?_) AllReadyH.nil)
    (go_simp; go_at_call 18; refine (HF2.out _ (HTB.out _ hq5).2.2).mono ?_; rintro e w6 ⟨s4, hs4, hi4, rfl, hb6⟩; have hq6 := hq5.trans (hb6.mono hq5.size); have hi3 := ints_on hi3 hb6; dsimp only)
    refine hK.out _ _ (HTB.out _ hq6).1 (fun hHeld => ?_)
    clear hK K
    try simp only [Act.put, List.setIfInBounds_toArray, List.set_cons_zero, List.set_cons_succ]
    refine wpAnyH_ready (rs := [17]) (by kernel_rfl) (by simp) (AllReadyH.cons (o := { dst := some 28, op := Op.call { callee := Callee.value (Operand.func 14), args := #[Operand.tmp 24, Operand.tmp 27], argTypes := #[44, 44] }, type := 4, pos := "law.go:115", after := #[{ on := 13, ground := Ground.data }, { on := 16, ground := Ground.data }, { on := 16, ground := Ground.chain }, { on := 10, ground := Ground.guard }], guard := some (10, true) }) rfl (fun K hK => ?_) AllReadyH.nil)
    (go_simp; go_at_call 14; refine (eq22_any (ok := inW w6) s3 s4 _ hi3 hi4).mono ?_; rintro e w7 ⟨rfl, n7, rfl⟩; have hq7 := below_drewN hq6 n7; have he : eqM s3.l s4.l = true := (by rw [hs3.out, hs4.out, eqM_eq]; simp); rw [he]; dsimp only)
    refine hK.out _ _ (HTB.out _ hq7).1 (fun hHeld => ?_)
    clear hK K
    try simp only [Act.put, List.setIfInBounds_toArray, List.set_cons_zero, List.set_cons_succ]
    refine wpAnyH_take (i := 18) (oi := { dst := some 29, op := Op.pick (Operand.tmp 21) (Operand.tmp 28) (Operand.const (Value.bool false)), type := 4, pos := "law.go:115", after := #[{ on := 10, ground := Ground.data }, { on := 17, ground := Ground.data }], guard := none }) (v := ?va18) rfl (by kernel_rfl) (by kernel_rfl) (by kernel_rfl) (fun _ _ _ h => h) (Or.inl ⟨by rfl, ?ya18⟩) (by assumption) ?ra18
    case ya18 => (intro w hSw; (try dsimp only at hSw); go_simp; try with_reducible rfl)
    try simp only [Act.put, List.setIfInBounds_toArray, List.set_cons_zero, List.set_cons_succ]
    refine wpAnyH_take (i := 19) (oi := { dst := some 30, op := Op.move (Operand.tmp 29), type := 4, pos := "law.go:115", after := #[{ on := 18, ground := Ground.data }, { on := 17, ground := Ground.chain }], guard := none }) (v := ?va19) rfl (by kernel_rfl) (by kernel_rfl) (by kernel_rfl) (fun _ _ _ h => h) (Or.inl ⟨by rfl, ?ya19⟩) (by assumption) ?ra19
    case ya19 => (intro w hSw; (try dsimp only at hSw); go_simp; try with_reducible rfl)
    try simp only [Act.put, List.setIfInBounds_toArray, List.set_cons_zero, List.set_cons_succ]
    refine wpAnyH_take (i := 20) (oi := { dst := some 31, op := Op.load 28 (Operand.tmp 3), type := 28, pos := "law.go:115", after := #[{ on := 19, ground := Ground.guard }], guard := some (19, true) }) (v := ?va20) rfl (by kernel_rfl) (by kernel_rfl) (by kernel_rfl) (fun _ _ _ h => h) (Or.inl ⟨by rfl, ?ya20⟩) (by assumption) ?ra20
    case ya20 => (intro w hSw; (try dsimp only at hSw); go_simp; try with_reducible rfl)
    try simp only [Act.put, List.setIfInBounds_toArray, List.set_cons_zero, List.set_cons_succ]
    refine wpAnyH_take (i := 21) (oi := { dst := some 32, op := Op.move (Operand.tmp 1), type := 3, pos := "law.go:115", after := #[{ on := 19, ground := Ground.guard }], guard := some (19, true) }) (v := ?va21) rfl (by kernel_rfl) (by kernel_rfl) (by kernel_rfl) (fun _ _ _ h => h) (Or.inl ⟨by rfl, ?ya21⟩) (by assumption) ?ra21
    case ya21 => (intro w hSw; (try dsimp only at hSw); go_simp; try with_reducible rfl)
    try simp only [Act.put, List.setIfInBounds_toArray, List.set_cons_zero, List.set_cons_succ]
    refine wpAnyH_take (i := 22) (oi := { dst := some 33, op := Op.move (Operand.tmp 2), type := 3, pos := "law.go:115", after := #[{ on := 19, ground := Ground.guard }], guard := some (19, true) }) (v := ?va22) rfl (by kernel_rfl) (by kernel_rfl) (by kernel_rfl) (fun _ _ _ h => h) (Or.inl ⟨by rfl, ?ya22⟩) (by assumption) ?ra22
    case ya22 => (intro w hSw; (try dsimp only at hSw); go_simp; try with_reducible rfl)
    try simp only [Act.put, List.setIfInBounds_toArray, List.set_cons_zero, List.set_cons_succ]
    refine wpAnyH_take (i := 24) (oi := { dst := some 35, op := Op.load 28 (Operand.tmp 3), type := 28, pos := "law.go:115", after := #[{ on := 19, ground := Ground.guard }], guard := some (19, true) }) (v := ?va24) rfl (by kernel_rfl) (by kernel_rfl) (by kernel_rfl) (fun _ _ _ h => h) (Or.inl ⟨by rfl, ?ya24⟩) (by assumption) ?ra24
    case ya24 => (intro w hSw; (try dsimp only at hSw); go_simp; try with_reducible rfl)
    try simp only [Act.put, List.setIfInBounds_toArray, List.set_cons_zero, List.set_cons_succ]
    refine wpAnyH_take (i := 25) (oi := { dst := some 36, op := Op.move (Operand.tmp 1), type := 3, pos := "law.go:115", after := #[{ on := 19, ground := Ground.guard }], guard := some (19, true) }) (v := ?va25) rfl (by kernel_rfl) (by kernel_rfl) (by kernel_rfl) (fun _ _ _ h => h) (Or.inl ⟨by rfl, ?ya25⟩) (by assumption) ?ra25
    case ya25 => (intro w hSw; (try dsimp only at hSw); go_simp; try with_reducible rfl)
    try simp only [Act.put, List.setIfInBounds_toArray, List.set_cons_zero, List.set_cons_succ]
    refine wpAnyH_take (i := 26) (oi := { dst := some 37, op := Op.move (Operand.tmp 2), type := 3, pos := "law.go:115", after := #[{ on := 19, ground := Ground.guard }], guard := some (19, true) }) (v := ?va26) rfl (by kernel_rfl) (by kernel_rfl) (by kernel_rfl) (fun _ _ _ h => h) (Or.inl ⟨by rfl, ?ya26⟩) (by assumption) ?ra26
    case ya26 => (intro w hSw; (try dsimp only at hSw); go_simp; try with_reducible rfl)
    try simp only [Act.put, List.setIfInBounds_toArray, List.set_cons_zero, List.set_cons_succ]
    refine wpAnyH_ready (rs := [23]) (by kernel_rfl) (by simp) (AllReadyH.cons (o := { dst := some 34, op := Op.call { callee := Callee.value (Operand.func 19), args := #[Operand.tmp 31, Operand.tmp 32, Operand.tmp 33], argTypes := #[28, 3, 3] }, type := 4, pos := "law.go:115", after := #[{ on := 20, ground := Ground.data }, { on := 21, ground := Ground.data }, { on := 22, ground := Ground.data }, { on := 19, ground := Ground.chain }, { on := 19, ground := Ground.guard }], guard := some (19, true) }) rfl (fun K hK => ?_) AllReadyH.nil)
    (go_simp; go_at_call 19; refine (HI.out _ (HTB.out _ hq7).2.2).mono ?_; rintro e w8 ⟨rfl, hb8⟩; have hq8 := hq7.trans (hb8.mono hq7.size); dsimp only)
    refine hK.out _ _ (HTB.out _ hq8).1 (fun hHeld => ?_)
    clear hK K
    try simp only [Act.put, List.setIfInBounds_toArray, List.set_cons_zero, List.set_cons_succ]
    refine wpAnyH_ready (rs := [27]) (by kernel_rfl) (by simp) (AllReadyH.cons (o := { dst := some 38, op := Op.call { callee := Callee.value (Operand.func 20), args := #[Operand.tmp 35, Operand.tmp 36, Operand.tmp 37], argTypes := #[28, 3, 3] }, type := 4, pos := "law.go:115", after := #[{ on := 24, ground := Ground.data }, { on := 25, ground := Ground.data }, { on := 26, ground := Ground.data }, { on := 23, ground := Ground.chain }, { on := 19, ground := Ground.guard }], guard := some (19, true) }) rfl (fun K hK => ?_) AllReadyH.nil)
    (go_simp; go_at_call 20; refine (HR.out _ (HTB.out _ hq8).2.2).mono ?_; rintro e w9 ⟨rfl, hb9⟩; have hq9 := hq8.trans (hb9.mono hq8.size); dsimp only)
    refine hK.out _ _ (HTB.out _ hq9).1 (fun hHeld => ?_)
    clear hK K
    try simp only [Act.put, List.setIfInBounds_toArray, List.set_cons_zero, List.set_cons_succ]
    refine wpAnyH_take (i := 28) (oi := { dst := some 39, op := Op.binOp BinOp.eql 4 (Operand.tmp 34) (Operand.tmp 38) 4, type := 4, pos := "law.go:115", after := #[{ on := 23, ground := Ground.data }, { on := 27, ground := Ground.data }, { on := 19, ground := Ground.guard }], guard := some (19, true) }) (v := ?va28) rfl (by kernel_rfl) (by kernel_rfl) (by kernel_rfl) (fun _ _ _ h => h) (Or.inl ⟨by rfl, ?ya28⟩) (by assumption) ?ra28
    case ya28 => (intro w hSw; (try dsimp only at hSw); go_simp; try with_reducible rfl)
    try simp only [Act.put, List.setIfInBounds_toArray, List.set_cons_zero, List.set_cons_succ]
    refine wpAnyH_take (i := 29) (oi := { dst := some 40, op := Op.pick (Operand.tmp 30) (Operand.tmp 39) (Operand.const (Value.bool false)), type := 4, pos := "law.go:115", after := #[{ on := 19, ground := Ground.data }, { on := 28, ground := Ground.data }], guard := none }) (v := ?va29) rfl (by kernel_rfl) (by kernel_rfl) (by kernel_rfl) (fun _ _ _ h => h) (Or.inl ⟨by rfl, ?ya29⟩) (by assumption) ?ra29
    case ya29 => (intro w hSw; (try dsimp only at hSw); go_simp; try with_reducible rfl)
    try simp only [Act.put, List.setIfInBounds_toArray, List.set_cons_zero, List.set_cons_succ]
    refine wpAnyH_take (i := 30) (oi := { dst := some 6, op := Op.assign (Operand.tmp 40), type := 4, pos := "law.go:115", after := #[{ on := 29, ground := Ground.data }, { on := 27, ground := Ground.chain }, { on := 0, ground := Ground.phase }, { on := 1, ground := Ground.phase }, { on := 2, ground := Ground.phase }, { on := 3, ground := Ground.phase }, { on := 4, ground := Ground.phase }, { on := 5, ground := Ground.phase }, { on := 6, ground := Ground.phase }, { on := 7, ground := Ground.phase }, { on := 8, ground := Ground.phase }, { on := 9, ground := Ground.phase }, { on := 10, ground := Ground.phase }, { on := 11, ground := Ground.phase }, { on := 12, ground := Ground.phase }, { on := 13, ground := Ground.phase }, { on := 14, ground := Ground.phase }, { on := 15, ground := Ground.phase }, { on := 16, ground := Ground.phase }, { on := 17, ground := Ground.phase }, { on := 18, ground := Ground.phase }, { on := 19, ground := Ground.phase }, { on := 20, ground := Ground.phase }, { on := 21, ground := Ground.phase }, { on := 22, ground := Ground.phase }, { on := 23, ground := Ground.phase }, { on := 24, ground := Ground.phase }, { on := 25, ground := Ground.phase }, { on := 26, ground := Ground.phase }, { on := 27, ground := Ground.phase }, { on := 28, ground := Ground.phase }, { on := 29, ground := Ground.phase }], guard := none }) (v := ?va30) rfl (by kernel_rfl) (by kernel_rfl) (by kernel_rfl) (fun _ _ _ h => h) (Or.inl ⟨by rfl, ?ya30⟩) (by assumption) ?ra30
    case ya30 => (intro w hSw; (try dsimp only at hSw); go_simp; try with_reducible rfl)
    try simp only [Act.put, List.setIfInBounds_toArray, List.set_cons_zero, List.set_cons_succ]
    refine wpAnyH_done (by kernel_rfl) ?_ _
    go_wp2_with fail
    go_ret
    exact ⟨congrArg (fun b => Ending.returned (Value.bool b)) (by simp), HB.out.trans (hq9.mono (by omega))⟩
end Go.Proofs.YtfbaikijnjafbaaGreatDoor
