/- SymbolsFinds, as a function of what awake and the program's FindClass give: the law's own walk. -/
import Derived.Test.YtfbaikijnjafbaaDoorRa
import Derived.Test.YtfbaikijnjafbaaDoorFe
import Derived.Test.YtfbaikijnjafbaaDoorAw
namespace Go.Proofs.YtfbaikijnjafbaaDoor
set_option linter.unusedSimpArgs false
set_option linter.unusedVariables false
open Go.RowKit
set_option maxRecDepth 100000

section
variable {ok ok' : Nat → Prop} {w : World}
theorem IntsL.imp {s : Sl Int} (h : IntsL ok w s) (hb : ∀ k, ok k → ok' k) : IntsL ok' w s := ⟨h.1.imp hb, h.2⟩
theorem ClsL.imp {c : Cls} (h : ClsL ok w c) (hb : ∀ k, ok k → ok' k) : ClsL ok' w c := by
  obtain ⟨h1, h2, ⟨a1, a2, a3, a4, a5⟩, b1, b2, b3⟩ := h
  exact ⟨h1, h2, ⟨a1.imp hb, a2.imp hb, a3.imp hb, a4.imp hb, a5.imp hb⟩, b1.imp hb, b2.imp hb, b3.imp hb⟩
theorem BodyL.imp {x : Option (Addr × Tre)} (h : BodyL ok w x) (hb : ∀ k, ok k → ok' k) : BodyL ok' w x := by
  match x, h with
  | none, _ => trivial
  | some (a, T), ⟨b, o, h1, h2, h3, h4⟩ => exact ⟨b, o, h1, hb b h2, h3, h4.imp hb⟩
theorem MthL.imp {c : Mth} (h : MthL ok w c) (hb : ∀ k, ok k → ok' k) : MthL ok' w c := by
  obtain ⟨h1, h2, h3, ⟨h4, h5⟩, h6, h7⟩ := h
  exact ⟨h1, h2, h3.imp hb, ⟨h4.imp hb, fun x hx => (h5 x hx).imp hb⟩, h6.imp hb, h7.imp hb⟩
theorem FldL.imp {c : Fld} (h : FldL ok w c) (hb : ∀ k, ok k → ok' k) : FldL ok' w c := ⟨h.1, h.2.1, h.2.2.imp hb⟩
theorem TpmL.imp {c : Tpm} (h : TpmL ok w c) (hb : ∀ k, ok k → ok' k) : TpmL ok' w c := ⟨h.1, h.2.1, h.2.2.1.imp hb, h.2.2.2.imp hb⟩
theorem PrgL.imp {p : Prg} (h : PrgL ok w p) (hb : ∀ k, ok k → ok' k) : PrgL ok' w p :=
  ⟨h.cls.imp hb, fun c hc => (h.clsL c hc).imp hb, h.mth.imp hb, fun c hc => (h.mthL c hc).imp hb, h.fld.imp hb, fun c hc => (h.fldL c hc).imp hb,
    h.tpm.imp hb, fun c hc => (h.tpmL c hc).imp hb, h.tym.imp hb, fun c hc => (h.tymL c hc).imp hb, h.main⟩
end

theorem finds_law (G : World → Prop) (hG : ∀ w w', G w → Below w.heap.size w w' → G w')
    (ha : ∀ w, G w → Calls Tryd.prog 7 #[] w fun e w' => e = .returned (.bool true) ∧ Below w.heap.size w w')
    (hd : ∀ (ok : Nat → Prop) (p : Prg) (owner : Int) (name : ByteArray) (object : Bool) (w : World), G w → PrgL ok w p → (∀ k, ok k → k < w.heap.size) → Calls Tryd.prog 11 #[p.agg, I owner, .string name, .bool object] w fun e w' => e = .returned (I (findM owner name object p.cls.l 0)) ∧ Below w.heap.size w w')
    (p : Prg) (owner a b : Int) (w : World) (hw : G w) (hp : PrgL (inW w) w p) : Calls Tryd.prog 4 #[p.agg, I owner, .agg #[I a, I b]] w fun e w' => e = .returned (.bool true) ∧ Below w.heap.size w w' := by
  have hF := fun (W : World) (hP : PrgL (inW W) W p) => few_any p W hP
  have hR := fun (W : World) (name : ByteArray) (object : Bool) (hP : PrgL (inW W) W p) => find18_any p owner name object W hP (fun k h => h)
  have hE := fun (W : World) (name : ByteArray) (object : Bool) (hg : G W) (hP : PrgL (inW W) W p) => hd _ p owner name object W hg hP (fun k h => h)
  have hbw : Below w.heap.size w ((w.alloc (.cells #[p.cls.v, p.mth.v, p.fld.v, p.tpm.v, p.tym.v, I p.main] 30)).alloc (.cells #[I a, I b] 31)) := ((Below.refl w.heap.size w).alloc (Nat.le_refl _) _).alloc (by simp) _
  have hPm := fun (W : World) (hb : Below w.heap.size w W) => (hp.same (fun k hk => hb.block k hk)).imp (ok' := inW W) (fun k hk => Nat.lt_of_lt_of_le hk hb.size)
  obtain ⟨⟨ca, cap, l⟩, mth, fld, tpm, tym, main⟩ := p
  have HF := Lib.hid hF
  have HR := Lib.hid hR
  have HE := Lib.hid hE
  have HA := Lib.hid ha
  have HG := Lib.hid hG
  have HW := Lib.hid hw
  have HP := Lib.hid hp
  have HPm := Lib.hid hPm
  have HB := Lib.hid hbw
  have hbox : ∀ j, ((w.alloc (.cells #[(Sl.mk ca cap l).v, mth.v, fld.v, tpm.v, tym.v, I main] 30)).alloc (.cells #[I a, I b] 31)).cell? ⟨w.heap.size, j, none⟩ = #[(Sl.mk ca cap l).v, mth.v, fld.v, tpm.v, tym.v, I main][j]? := fun j => by
    exact (World.cell?_alloc_lt _ _ _ (by simp)).trans (World.cell?_alloc_new w _ 30 j)
  have hwh : ∀ j, ((w.alloc (.cells #[(Sl.mk ca cap l).v, mth.v, fld.v, tpm.v, tym.v, I main] 30)).alloc (.cells #[I a, I b] 31)).cell? ⟨w.heap.size + 1, j, none⟩ = #[I a, I b][j]? := fun j => by
    have h := World.cell?_alloc_new (w.alloc (.cells #[(Sl.mk ca cap l).v, mth.v, fld.v, tpm.v, tym.v, I main] 30)) #[I a, I b] 31 j
    rw [show (w.alloc (.cells #[(Sl.mk ca cap l).v, mth.v, fld.v, tpm.v, tym.v, I main] 30)).heap.size = w.heap.size + 1 by simp] at h
    exact h
  have hbz : ((w.alloc (.cells #[(Sl.mk ca cap l).v, mth.v, fld.v, tpm.v, tym.v, I main] 30)).alloc (.cells #[I a, I b] 31)).heap.size = w.heap.size + 2 := by simp
  have HBOX := Lib.hid hbox
  have HWH := Lib.hid hwh
  have HBZ := Lib.hid hbz
  clear ha hd hG hw hp hF hR hE hPm hbw hbox hwh hbz
  unfold Prg.agg Sl.v at *
  dsimp only at HF HR HE HB HBOX HWH HBZ ⊢
  go_enter Tryd.func4, Tryd.ntmps4
  go_upto_region 2 with fail
  change Code.wp _ _ _ _ ((w.alloc (.cells #[.slice ca l.length cap, .slice mth.a mth.l.length mth.cap, .slice fld.a fld.l.length fld.cap, .slice tpm.a tpm.l.length tpm.cap, .slice tym.a tym.l.length tym.cap, I main] 30)).alloc (.cells #[I a, I b] 31))
  generalize (w.alloc (.cells #[.slice ca l.length cap, .slice mth.a mth.l.length mth.cap, .slice fld.a fld.l.length fld.cap, .slice tpm.a tpm.l.length tpm.cap, .slice tym.a tym.l.length tym.cap, I main] 30)).alloc (.cells #[I a, I b] 31) = wb at *
  have hbz := HBZ.out
  have x0 := HBOX.out 0
  have x1 := HBOX.out 1
  have x2 := HBOX.out 2
  have x3 := HBOX.out 3
  have x4 := HBOX.out 4
  have x5 := HBOX.out 5
  simp at x0 x1 x2 x3 x4 x5
  go_wp2_with fail
  refine (HF.out wb (HPm.out wb HB.out)).mono ?_
  rintro e w1 ⟨bF, rfl, hb1⟩
  have HB1 := Lib.hid hb1
  have hg1 := HG.out _ _ HW.out (HB.out.trans (hb1.mono (by omega)))
  clear hb1 x0 x1 x2 x3 x4 x5
  have hs1 : wb.heap.size ≤ w1.heap.size := HB1.out.size
  cases bF with
  | false =>
    have HG1 := Lib.hid hg1
    clear hg1
    go_wp2_with (first | (go_at_call 7; refine (HA.out w1 HG1.out).mono ?_; rintro e w2 ⟨rfl, hb2⟩))
    go_ret
    exact ⟨rfl, HB.out.trans ((HB1.out.mono (by omega)).trans (hb2.mono (by omega)))⟩
  | true =>
    have x0 := (HB1.out.cell (by show w.heap.size < _; omega)).trans (HBOX.out 0)
    have y0 := (HB1.out.cell (by show w.heap.size + 1 < _; omega)).trans (HWH.out 0)
    simp at x0 y0
    have HG1 := Lib.hid hg1
    clear hg1
    have hTB : ∀ W, Below wb.heap.size wb W → (fun w' => w'.cell? ⟨w.heap.size, 0, none⟩ = some (.slice ca l.length cap) ∧ w'.cell? ⟨w.heap.size, 1, none⟩ = some (.slice mth.a mth.l.length mth.cap) ∧ w'.cell? ⟨w.heap.size, 2, none⟩ = some (.slice fld.a fld.l.length fld.cap) ∧ w'.cell? ⟨w.heap.size, 3, none⟩ = some (.slice tpm.a tpm.l.length tpm.cap) ∧ w'.cell? ⟨w.heap.size, 4, none⟩ = some (.slice tym.a tym.l.length tym.cap) ∧ w'.cell? ⟨w.heap.size, 5, none⟩ = some (I main)) W ∧ G W ∧ PrgL (inW W) W ⟨⟨ca, cap, l⟩, mth, fld, tpm, tym, main⟩ := fun W hb => by
      have hc := fun j => (hb.cell (p := ⟨w.heap.size, j, none⟩) (by show w.heap.size < _; omega)).trans (HBOX.out j)
      exact ⟨⟨hc 0, hc 1, hc 2, hc 3, hc 4, hc 5⟩, HG.out _ _ HW.out (HB.out.trans (hb.mono (by omega))), HPm.out W (HB.out.trans (hb.mono (by omega)))⟩
    have HTB := Lib.hid hTB
    clear hTB
    by_cases hn : 0 < l.length
    · by_cases ha : 0 ≤ a
      · obtain ⟨k, hk, hkl⟩ : ∃ k : Nat, a.tmod (l.length : Int) = (k : Int) ∧ k < l.length := by
          obtain ⟨m, hm⟩ := Int.eq_ofNat_of_zero_le ha
          exact ⟨m % l.length, by rw [hm]; rfl, Nat.mod_lt _ hn⟩
        obtain ⟨eb, eo, hca, hokb, hcs⟩ := sl_at (HTB.out w1 HB1.out).2.2.cls hn
        dsimp only at hca
        subst hca
        have e0 : w1.cell? ⟨eb, eo + k * 13, none⟩ = some (.string l[k].nm) := (hcs k hkl) 0 (by simp [Cls.cells])
        generalize l[k].nm = name at *
        clear hcs hokb
        go_wp2_with fail
        go_quiet (fail)
        go_wp2_with fail
        have hq0 : Below wb.heap.size wb (w1.drewN (nq + 1)) := below_drewN HB1.out (nq + 1)
        refine wp_region_held_drew (S := (fun w' => w'.cell? ⟨w.heap.size, 0, none⟩ = some (.slice (some ⟨eb, eo, none⟩) l.length cap) ∧ w'.cell? ⟨w.heap.size, 1, none⟩ = some (.slice mth.a mth.l.length mth.cap) ∧ w'.cell? ⟨w.heap.size, 2, none⟩ = some (.slice fld.a fld.l.length fld.cap) ∧ w'.cell? ⟨w.heap.size, 3, none⟩ = some (.slice tpm.a tpm.l.length tpm.cap) ∧ w'.cell? ⟨w.heap.size, 4, none⟩ = some (.slice tym.a tym.l.length tym.cap) ∧ w'.cell? ⟨w.heap.size, 5, none⟩ = some (I main))) (by kernel_rfl) ?_ (fun hHeld => ?_)
        · exact (HTB.out _ hq0).1
        refine wpAnyH_ready (rs := [0]) (by kernel_rfl) (by simp) (AllReadyH.cons (o := { dst := some 37, op := Op.call { callee := Callee.value (Operand.func 7), args := #[], argTypes := #[] }, type := 4, pos := "law.go:99", after := #[], guard := none }) rfl (fun K hK => ?_) AllReadyH.nil)
        (go_simp; go_at_call 7; refine (HA.out _ (HTB.out _ hq0).2.1).mono ?_; rintro e w2 ⟨rfl, hb2⟩; have hq2 := hq0.trans (hb2.mono hq0.size); dsimp only)
        refine hK.out _ _ (HTB.out _ hq2).1 (fun hHeld => ?_)
        clear hK K
        try simp only [Act.put, List.setIfInBounds_toArray, List.set_cons_zero, List.set_cons_succ]
        refine wpAnyH_take (i := 1) (oi := { dst := some 38, op := Op.move (Operand.tmp 37), type := 4, pos := "law.go:99", after := #[{ on := 0, ground := Ground.data }, { on := 0, ground := Ground.chain }], guard := none }) (v := ?vc1) rfl (by kernel_rfl) (by kernel_rfl) (by kernel_rfl) (fun _ _ _ h => h) (Or.inl ⟨by rfl, ?yc1⟩) (by assumption) ?rc1
        case yc1 => (intro w hSw; (try dsimp only at hSw); go_simp; try with_reducible rfl)
        try simp only [Act.put, List.setIfInBounds_toArray, List.set_cons_zero, List.set_cons_succ]
        refine wpAnyH_take (i := 2) (oi := { dst := some 39, op := Op.load 30 (Operand.tmp 3), type := 30, pos := "law.go:99", after := #[{ on := 1, ground := Ground.guard }], guard := some (1, true) }) (v := ?vc2) rfl (by kernel_rfl) (by kernel_rfl) (by kernel_rfl) (fun _ _ _ h => h) (Or.inl ⟨by rfl, ?yc2⟩) (by assumption) ?rc2
        case yc2 => (intro w hSw; (try dsimp only at hSw); go_simp; try with_reducible rfl)
        try simp only [Act.put, List.setIfInBounds_toArray, List.set_cons_zero, List.set_cons_succ]
        refine wpAnyH_take (i := 3) (oi := { dst := some 40, op := Op.move (Operand.tmp 1), type := 3, pos := "law.go:99", after := #[{ on := 1, ground := Ground.guard }], guard := some (1, true) }) (v := ?vc3) rfl (by kernel_rfl) (by kernel_rfl) (by kernel_rfl) (fun _ _ _ h => h) (Or.inl ⟨by rfl, ?yc3⟩) (by assumption) ?rc3
        case yc3 => (intro w hSw; (try dsimp only at hSw); go_simp; try with_reducible rfl)
        try simp only [Act.put, List.setIfInBounds_toArray, List.set_cons_zero, List.set_cons_succ]
        refine wpAnyH_take (i := 4) (oi := { dst := some 41, op := Op.move (Operand.tmp 8), type := 9, pos := "law.go:99", after := #[{ on := 1, ground := Ground.guard }], guard := some (1, true) }) (v := ?vc4) rfl (by kernel_rfl) (by kernel_rfl) (by kernel_rfl) (fun _ _ _ h => h) (Or.inl ⟨by rfl, ?yc4⟩) (by assumption) ?rc4
        case yc4 => (intro w hSw; (try dsimp only at hSw); go_simp; try with_reducible rfl)
        try simp only [Act.put, List.setIfInBounds_toArray, List.set_cons_zero, List.set_cons_succ]
        refine wpAnyH_take (i := 5) (oi := { dst := some 42, op := Op.move (Operand.tmp 7), type := 4, pos := "law.go:99", after := #[{ on := 1, ground := Ground.guard }], guard := some (1, true) }) (v := ?vc5) rfl (by kernel_rfl) (by kernel_rfl) (by kernel_rfl) (fun _ _ _ h => h) (Or.inl ⟨by rfl, ?yc5⟩) (by assumption) ?rc5
        case yc5 => (intro w hSw; (try dsimp only at hSw); go_simp; try with_reducible rfl)
        try simp only [Act.put, List.setIfInBounds_toArray, List.set_cons_zero, List.set_cons_succ]
        refine wpAnyH_take (i := 7) (oi := { dst := some 44, op := Op.load 30 (Operand.tmp 3), type := 30, pos := "law.go:99", after := #[{ on := 1, ground := Ground.guard }], guard := some (1, true) }) (v := ?vc7) rfl (by kernel_rfl) (by kernel_rfl) (by kernel_rfl) (fun _ _ _ h => h) (Or.inl ⟨by rfl, ?yc7⟩) (by assumption) ?rc7
        case yc7 => (intro w hSw; (try dsimp only at hSw); go_simp; try with_reducible rfl)
        try simp only [Act.put, List.setIfInBounds_toArray, List.set_cons_zero, List.set_cons_succ]
        refine wpAnyH_take (i := 8) (oi := { dst := some 45, op := Op.move (Operand.tmp 1), type := 3, pos := "law.go:99", after := #[{ on := 1, ground := Ground.guard }], guard := some (1, true) }) (v := ?vc8) rfl (by kernel_rfl) (by kernel_rfl) (by kernel_rfl) (fun _ _ _ h => h) (Or.inl ⟨by rfl, ?yc8⟩) (by assumption) ?rc8
        case yc8 => (intro w hSw; (try dsimp only at hSw); go_simp; try with_reducible rfl)
        try simp only [Act.put, List.setIfInBounds_toArray, List.set_cons_zero, List.set_cons_succ]
        refine wpAnyH_take (i := 9) (oi := { dst := some 46, op := Op.move (Operand.tmp 8), type := 9, pos := "law.go:99", after := #[{ on := 1, ground := Ground.guard }], guard := some (1, true) }) (v := ?vc9) rfl (by kernel_rfl) (by kernel_rfl) (by kernel_rfl) (fun _ _ _ h => h) (Or.inl ⟨by rfl, ?yc9⟩) (by assumption) ?rc9
        case yc9 => (intro w hSw; (try dsimp only at hSw); go_simp; try with_reducible rfl)
        try simp only [Act.put, List.setIfInBounds_toArray, List.set_cons_zero, List.set_cons_succ]
        refine wpAnyH_take (i := 10) (oi := { dst := some 47, op := Op.move (Operand.tmp 7), type := 4, pos := "law.go:99", after := #[{ on := 1, ground := Ground.guard }], guard := some (1, true) }) (v := ?vc10) rfl (by kernel_rfl) (by kernel_rfl) (by kernel_rfl) (fun _ _ _ h => h) (Or.inl ⟨by rfl, ?yc10⟩) (by assumption) ?rc10
        case yc10 => (intro w hSw; (try dsimp only at hSw); go_simp; try with_reducible rfl)
        try simp only [Act.put, List.setIfInBounds_toArray, List.set_cons_zero, List.set_cons_succ]
        refine wpAnyH_ready (rs := [6]) (by kernel_rfl) (by simp) (AllReadyH.cons (o := { dst := some 43, op := Op.call { callee := Callee.value (Operand.func 11), args := #[Operand.tmp 39, Operand.tmp 40, Operand.tmp 41, Operand.tmp 42], argTypes := #[30, 3, 9, 4] }, type := 3, pos := "law.go:99", after := #[{ on := 2, ground := Ground.data }, { on := 3, ground := Ground.data }, { on := 4, ground := Ground.data }, { on := 5, ground := Ground.data }, { on := 1, ground := Ground.chain }, { on := 1, ground := Ground.guard }], guard := some (1, true) }) rfl (fun K hK => ?_) AllReadyH.nil)
        (go_simp; go_at_call 11; refine (HE.out _ _ _ (HTB.out _ hq2).2.1 (HTB.out _ hq2).2.2).mono ?_; rintro e w3 ⟨rfl, hb3⟩; have hq3 := hq2.trans (hb3.mono hq2.size); dsimp only)
        refine hK.out _ _ (HTB.out _ hq3).1 (fun hHeld => ?_)
        clear hK K
        try simp only [Act.put, List.setIfInBounds_toArray, List.set_cons_zero, List.set_cons_succ]
        refine wpAnyH_ready (rs := [11]) (by kernel_rfl) (by simp) (AllReadyH.cons (o := { dst := some 48, op := Op.call { callee := Callee.value (Operand.func 12), args := #[Operand.tmp 44, Operand.tmp 45, Operand.tmp 46, Operand.tmp 47], argTypes := #[30, 3, 9, 4] }, type := 3, pos := "law.go:99", after := #[{ on := 7, ground := Ground.data }, { on := 8, ground := Ground.data }, { on := 9, ground := Ground.data }, { on := 10, ground := Ground.data }, { on := 6, ground := Ground.chain }, { on := 1, ground := Ground.guard }], guard := some (1, true) }) rfl (fun K hK => ?_) AllReadyH.nil)
        (go_simp; go_at_call 12; refine (HR.out _ _ _ (HTB.out _ hq3).2.2).mono ?_; rintro e w4 ⟨rfl, hb4⟩; have hq4 := hq3.trans (hb4.mono hq3.size); dsimp only)
        refine hK.out _ _ (HTB.out _ hq4).1 (fun hHeld => ?_)
        clear hK K
        try simp only [Act.put, List.setIfInBounds_toArray, List.set_cons_zero, List.set_cons_succ]
        refine wpAnyH_take (i := 12) (oi := { dst := some 49, op := Op.binOp BinOp.eql 3 (Operand.tmp 43) (Operand.tmp 48) 3, type := 4, pos := "law.go:99", after := #[{ on := 6, ground := Ground.data }, { on := 11, ground := Ground.data }, { on := 1, ground := Ground.guard }], guard := some (1, true) }) (v := ?vc12) rfl (by kernel_rfl) (by kernel_rfl) (by kernel_rfl) (fun _ _ _ h => h) (Or.inl ⟨by rfl, ?yc12⟩) (by assumption) ?rc12
        case yc12 => (intro w hSw; (try dsimp only at hSw); go_simp; try with_reducible rfl)
        try simp only [Act.put, List.setIfInBounds_toArray, List.set_cons_zero, List.set_cons_succ]
        refine wpAnyH_take (i := 13) (oi := { dst := some 50, op := Op.pick (Operand.tmp 38) (Operand.tmp 49) (Operand.const (Value.bool false)), type := 4, pos := "law.go:99", after := #[{ on := 1, ground := Ground.data }, { on := 12, ground := Ground.data }], guard := none }) (v := ?vc13) rfl (by kernel_rfl) (by kernel_rfl) (by kernel_rfl) (fun _ _ _ h => h) (Or.inl ⟨by rfl, ?yc13⟩) (by assumption) ?rc13
        case yc13 => (intro w hSw; (try dsimp only at hSw); go_simp; try with_reducible rfl)
        try simp only [Act.put, List.setIfInBounds_toArray, List.set_cons_zero, List.set_cons_succ]
        refine wpAnyH_take (i := 14) (oi := { dst := some 6, op := Op.assign (Operand.tmp 50), type := 4, pos := "law.go:99", after := #[{ on := 13, ground := Ground.data }, { on := 11, ground := Ground.chain }, { on := 0, ground := Ground.phase }, { on := 1, ground := Ground.phase }, { on := 2, ground := Ground.phase }, { on := 3, ground := Ground.phase }, { on := 4, ground := Ground.phase }, { on := 5, ground := Ground.phase }, { on := 6, ground := Ground.phase }, { on := 7, ground := Ground.phase }, { on := 8, ground := Ground.phase }, { on := 9, ground := Ground.phase }, { on := 10, ground := Ground.phase }, { on := 11, ground := Ground.phase }, { on := 12, ground := Ground.phase }, { on := 13, ground := Ground.phase }], guard := none }) (v := ?vc14) rfl (by kernel_rfl) (by kernel_rfl) (by kernel_rfl) (fun _ _ _ h => h) (Or.inl ⟨by rfl, ?yc14⟩) (by assumption) ?rc14
        case yc14 => (intro w hSw; (try dsimp only at hSw); go_simp; try with_reducible rfl)
        try simp only [Act.put, List.setIfInBounds_toArray, List.set_cons_zero, List.set_cons_succ]
        refine wpAnyH_done (by kernel_rfl) ?_ _
        go_wp2_with fail
        go_ret
        exact ⟨congrArg (fun b => Ending.returned (Value.bool b)) (by simp), HB.out.trans (hq4.mono (by omega))⟩
      · go_wp2_with fail
        have hq0 : Below wb.heap.size wb w1.drew := below_drewN HB1.out 1
        refine wp_region_held_drew (S := (fun w' => w'.cell? ⟨w.heap.size, 0, none⟩ = some (.slice ca l.length cap) ∧ w'.cell? ⟨w.heap.size, 1, none⟩ = some (.slice mth.a mth.l.length mth.cap) ∧ w'.cell? ⟨w.heap.size, 2, none⟩ = some (.slice fld.a fld.l.length fld.cap) ∧ w'.cell? ⟨w.heap.size, 3, none⟩ = some (.slice tpm.a tpm.l.length tpm.cap) ∧ w'.cell? ⟨w.heap.size, 4, none⟩ = some (.slice tym.a tym.l.length tym.cap) ∧ w'.cell? ⟨w.heap.size, 5, none⟩ = some (I main))) (by kernel_rfl) ?_ (fun hHeld => ?_)
        · exact (HTB.out _ hq0).1
        refine wpAnyH_ready (rs := [0]) (by kernel_rfl) (by simp) (AllReadyH.cons (o := { dst := some 37, op := Op.call { callee := Callee.value (Operand.func 7), args := #[], argTypes := #[] }, type := 4, pos := "law.go:99", after := #[], guard := none }) rfl (fun K hK => ?_) AllReadyH.nil)
        (go_simp; go_at_call 7; refine (HA.out _ (HTB.out _ hq0).2.1).mono ?_; rintro e w2 ⟨rfl, hb2⟩; have hq2 := hq0.trans (hb2.mono hq0.size); dsimp only)
        refine hK.out _ _ (HTB.out _ hq2).1 (fun hHeld => ?_)
        clear hK K
        try simp only [Act.put, List.setIfInBounds_toArray, List.set_cons_zero, List.set_cons_succ]
        refine wpAnyH_take (i := 1) (oi := { dst := some 38, op := Op.move (Operand.tmp 37), type := 4, pos := "law.go:99", after := #[{ on := 0, ground := Ground.data }, { on := 0, ground := Ground.chain }], guard := none }) (v := ?va1) rfl (by kernel_rfl) (by kernel_rfl) (by kernel_rfl) (fun _ _ _ h => h) (Or.inl ⟨by rfl, ?ya1⟩) (by assumption) ?ra1
        case ya1 => (intro w hSw; (try dsimp only at hSw); go_simp; try with_reducible rfl)
        try simp only [Act.put, List.setIfInBounds_toArray, List.set_cons_zero, List.set_cons_succ]
        refine wpAnyH_take (i := 2) (oi := { dst := some 39, op := Op.load 30 (Operand.tmp 3), type := 30, pos := "law.go:99", after := #[{ on := 1, ground := Ground.guard }], guard := some (1, true) }) (v := ?va2) rfl (by kernel_rfl) (by kernel_rfl) (by kernel_rfl) (fun _ _ _ h => h) (Or.inl ⟨by rfl, ?ya2⟩) (by assumption) ?ra2
        case ya2 => (intro w hSw; (try dsimp only at hSw); go_simp; try with_reducible rfl)
        try simp only [Act.put, List.setIfInBounds_toArray, List.set_cons_zero, List.set_cons_succ]
        refine wpAnyH_take (i := 3) (oi := { dst := some 40, op := Op.move (Operand.tmp 1), type := 3, pos := "law.go:99", after := #[{ on := 1, ground := Ground.guard }], guard := some (1, true) }) (v := ?va3) rfl (by kernel_rfl) (by kernel_rfl) (by kernel_rfl) (fun _ _ _ h => h) (Or.inl ⟨by rfl, ?ya3⟩) (by assumption) ?ra3
        case ya3 => (intro w hSw; (try dsimp only at hSw); go_simp; try with_reducible rfl)
        try simp only [Act.put, List.setIfInBounds_toArray, List.set_cons_zero, List.set_cons_succ]
        refine wpAnyH_take (i := 4) (oi := { dst := some 41, op := Op.move (Operand.tmp 8), type := 9, pos := "law.go:99", after := #[{ on := 1, ground := Ground.guard }], guard := some (1, true) }) (v := ?va4) rfl (by kernel_rfl) (by kernel_rfl) (by kernel_rfl) (fun _ _ _ h => h) (Or.inl ⟨by rfl, ?ya4⟩) (by assumption) ?ra4
        case ya4 => (intro w hSw; (try dsimp only at hSw); go_simp; try with_reducible rfl)
        try simp only [Act.put, List.setIfInBounds_toArray, List.set_cons_zero, List.set_cons_succ]
        refine wpAnyH_take (i := 5) (oi := { dst := some 42, op := Op.move (Operand.tmp 7), type := 4, pos := "law.go:99", after := #[{ on := 1, ground := Ground.guard }], guard := some (1, true) }) (v := ?va5) rfl (by kernel_rfl) (by kernel_rfl) (by kernel_rfl) (fun _ _ _ h => h) (Or.inl ⟨by rfl, ?ya5⟩) (by assumption) ?ra5
        case ya5 => (intro w hSw; (try dsimp only at hSw); go_simp; try with_reducible rfl)
        try simp only [Act.put, List.setIfInBounds_toArray, List.set_cons_zero, List.set_cons_succ]
        refine wpAnyH_take (i := 7) (oi := { dst := some 44, op := Op.load 30 (Operand.tmp 3), type := 30, pos := "law.go:99", after := #[{ on := 1, ground := Ground.guard }], guard := some (1, true) }) (v := ?va7) rfl (by kernel_rfl) (by kernel_rfl) (by kernel_rfl) (fun _ _ _ h => h) (Or.inl ⟨by rfl, ?ya7⟩) (by assumption) ?ra7
        case ya7 => (intro w hSw; (try dsimp only at hSw); go_simp; try with_reducible rfl)
        try simp only [Act.put, List.setIfInBounds_toArray, List.set_cons_zero, List.set_cons_succ]
        refine wpAnyH_take (i := 8) (oi := { dst := some 45, op := Op.move (Operand.tmp 1), type := 3, pos := "law.go:99", after := #[{ on := 1, ground := Ground.guard }], guard := some (1, true) }) (v := ?va8) rfl (by kernel_rfl) (by kernel_rfl) (by kernel_rfl) (fun _ _ _ h => h) (Or.inl ⟨by rfl, ?ya8⟩) (by assumption) ?ra8
        case ya8 => (intro w hSw; (try dsimp only at hSw); go_simp; try with_reducible rfl)
        try simp only [Act.put, List.setIfInBounds_toArray, List.set_cons_zero, List.set_cons_succ]
        refine wpAnyH_take (i := 9) (oi := { dst := some 46, op := Op.move (Operand.tmp 8), type := 9, pos := "law.go:99", after := #[{ on := 1, ground := Ground.guard }], guard := some (1, true) }) (v := ?va9) rfl (by kernel_rfl) (by kernel_rfl) (by kernel_rfl) (fun _ _ _ h => h) (Or.inl ⟨by rfl, ?ya9⟩) (by assumption) ?ra9
        case ya9 => (intro w hSw; (try dsimp only at hSw); go_simp; try with_reducible rfl)
        try simp only [Act.put, List.setIfInBounds_toArray, List.set_cons_zero, List.set_cons_succ]
        refine wpAnyH_take (i := 10) (oi := { dst := some 47, op := Op.move (Operand.tmp 7), type := 4, pos := "law.go:99", after := #[{ on := 1, ground := Ground.guard }], guard := some (1, true) }) (v := ?va10) rfl (by kernel_rfl) (by kernel_rfl) (by kernel_rfl) (fun _ _ _ h => h) (Or.inl ⟨by rfl, ?ya10⟩) (by assumption) ?ra10
        case ya10 => (intro w hSw; (try dsimp only at hSw); go_simp; try with_reducible rfl)
        try simp only [Act.put, List.setIfInBounds_toArray, List.set_cons_zero, List.set_cons_succ]
        refine wpAnyH_ready (rs := [6]) (by kernel_rfl) (by simp) (AllReadyH.cons (o := { dst := some 43, op := Op.call { callee := Callee.value (Operand.func 11), args := #[Operand.tmp 39, Operand.tmp 40, Operand.tmp 41, Operand.tmp 42], argTypes := #[30, 3, 9, 4] }, type := 3, pos := "law.go:99", after := #[{ on := 2, ground := Ground.data }, { on := 3, ground := Ground.data }, { on := 4, ground := Ground.data }, { on := 5, ground := Ground.data }, { on := 1, ground := Ground.chain }, { on := 1, ground := Ground.guard }], guard := some (1, true) }) rfl (fun K hK => ?_) AllReadyH.nil)
        (go_simp; go_at_call 11; refine (HE.out _ _ _ (HTB.out _ hq2).2.1 (HTB.out _ hq2).2.2).mono ?_; rintro e w3 ⟨rfl, hb3⟩; have hq3 := hq2.trans (hb3.mono hq2.size); dsimp only)
        refine hK.out _ _ (HTB.out _ hq3).1 (fun hHeld => ?_)
        clear hK K
        try simp only [Act.put, List.setIfInBounds_toArray, List.set_cons_zero, List.set_cons_succ]
        refine wpAnyH_ready (rs := [11]) (by kernel_rfl) (by simp) (AllReadyH.cons (o := { dst := some 48, op := Op.call { callee := Callee.value (Operand.func 12), args := #[Operand.tmp 44, Operand.tmp 45, Operand.tmp 46, Operand.tmp 47], argTypes := #[30, 3, 9, 4] }, type := 3, pos := "law.go:99", after := #[{ on := 7, ground := Ground.data }, { on := 8, ground := Ground.data }, { on := 9, ground := Ground.data }, { on := 10, ground := Ground.data }, { on := 6, ground := Ground.chain }, { on := 1, ground := Ground.guard }], guard := some (1, true) }) rfl (fun K hK => ?_) AllReadyH.nil)
        (go_simp; go_at_call 12; refine (HR.out _ _ _ (HTB.out _ hq3).2.2).mono ?_; rintro e w4 ⟨rfl, hb4⟩; have hq4 := hq3.trans (hb4.mono hq3.size); dsimp only)
        refine hK.out _ _ (HTB.out _ hq4).1 (fun hHeld => ?_)
        clear hK K
        try simp only [Act.put, List.setIfInBounds_toArray, List.set_cons_zero, List.set_cons_succ]
        refine wpAnyH_take (i := 12) (oi := { dst := some 49, op := Op.binOp BinOp.eql 3 (Operand.tmp 43) (Operand.tmp 48) 3, type := 4, pos := "law.go:99", after := #[{ on := 6, ground := Ground.data }, { on := 11, ground := Ground.data }, { on := 1, ground := Ground.guard }], guard := some (1, true) }) (v := ?va12) rfl (by kernel_rfl) (by kernel_rfl) (by kernel_rfl) (fun _ _ _ h => h) (Or.inl ⟨by rfl, ?ya12⟩) (by assumption) ?ra12
        case ya12 => (intro w hSw; (try dsimp only at hSw); go_simp; try with_reducible rfl)
        try simp only [Act.put, List.setIfInBounds_toArray, List.set_cons_zero, List.set_cons_succ]
        refine wpAnyH_take (i := 13) (oi := { dst := some 50, op := Op.pick (Operand.tmp 38) (Operand.tmp 49) (Operand.const (Value.bool false)), type := 4, pos := "law.go:99", after := #[{ on := 1, ground := Ground.data }, { on := 12, ground := Ground.data }], guard := none }) (v := ?va13) rfl (by kernel_rfl) (by kernel_rfl) (by kernel_rfl) (fun _ _ _ h => h) (Or.inl ⟨by rfl, ?ya13⟩) (by assumption) ?ra13
        case ya13 => (intro w hSw; (try dsimp only at hSw); go_simp; try with_reducible rfl)
        try simp only [Act.put, List.setIfInBounds_toArray, List.set_cons_zero, List.set_cons_succ]
        refine wpAnyH_take (i := 14) (oi := { dst := some 6, op := Op.assign (Operand.tmp 50), type := 4, pos := "law.go:99", after := #[{ on := 13, ground := Ground.data }, { on := 11, ground := Ground.chain }, { on := 0, ground := Ground.phase }, { on := 1, ground := Ground.phase }, { on := 2, ground := Ground.phase }, { on := 3, ground := Ground.phase }, { on := 4, ground := Ground.phase }, { on := 5, ground := Ground.phase }, { on := 6, ground := Ground.phase }, { on := 7, ground := Ground.phase }, { on := 8, ground := Ground.phase }, { on := 9, ground := Ground.phase }, { on := 10, ground := Ground.phase }, { on := 11, ground := Ground.phase }, { on := 12, ground := Ground.phase }, { on := 13, ground := Ground.phase }], guard := none }) (v := ?va14) rfl (by kernel_rfl) (by kernel_rfl) (by kernel_rfl) (fun _ _ _ h => h) (Or.inl ⟨by rfl, ?ya14⟩) (by assumption) ?ra14
        case ya14 => (intro w hSw; (try dsimp only at hSw); go_simp; try with_reducible rfl)
        try simp only [Act.put, List.setIfInBounds_toArray, List.set_cons_zero, List.set_cons_succ]
        refine wpAnyH_done (by kernel_rfl) ?_ _
        go_wp2_with fail
        go_ret
        exact ⟨congrArg (fun b => Ending.returned (Value.bool b)) (by simp), HB.out.trans (hq4.mono (by omega))⟩
    · go_wp2_with fail
      have hq0 : Below wb.heap.size wb w1.drew := below_drewN HB1.out 1
      refine wp_region_held_drew (S := (fun w' => w'.cell? ⟨w.heap.size, 0, none⟩ = some (.slice ca l.length cap) ∧ w'.cell? ⟨w.heap.size, 1, none⟩ = some (.slice mth.a mth.l.length mth.cap) ∧ w'.cell? ⟨w.heap.size, 2, none⟩ = some (.slice fld.a fld.l.length fld.cap) ∧ w'.cell? ⟨w.heap.size, 3, none⟩ = some (.slice tpm.a tpm.l.length tpm.cap) ∧ w'.cell? ⟨w.heap.size, 4, none⟩ = some (.slice tym.a tym.l.length tym.cap) ∧ w'.cell? ⟨w.heap.size, 5, none⟩ = some (I main))) (by kernel_rfl) ?_ (fun hHeld => ?_)
      · exact (HTB.out _ hq0).1
      refine wpAnyH_ready (rs := [0]) (by kernel_rfl) (by simp) (AllReadyH.cons (o := { dst := some 37, op := Op.call { callee := Callee.value (Operand.func 7), args := #[], argTypes := #[] }, type := 4, pos := "law.go:99", after := #[], guard := none }) rfl (fun K hK => ?_) AllReadyH.nil)
      (go_simp; go_at_call 7; refine (HA.out _ (HTB.out _ hq0).2.1).mono ?_; rintro e w2 ⟨rfl, hb2⟩; have hq2 := hq0.trans (hb2.mono hq0.size); dsimp only)
      refine hK.out _ _ (HTB.out _ hq2).1 (fun hHeld => ?_)
      clear hK K
      try simp only [Act.put, List.setIfInBounds_toArray, List.set_cons_zero, List.set_cons_succ]
      refine wpAnyH_take (i := 1) (oi := { dst := some 38, op := Op.move (Operand.tmp 37), type := 4, pos := "law.go:99", after := #[{ on := 0, ground := Ground.data }, { on := 0, ground := Ground.chain }], guard := none }) (v := ?vb1) rfl (by kernel_rfl) (by kernel_rfl) (by kernel_rfl) (fun _ _ _ h => h) (Or.inl ⟨by rfl, ?yb1⟩) (by assumption) ?rb1
      case yb1 => (intro w hSw; (try dsimp only at hSw); go_simp; try with_reducible rfl)
      try simp only [Act.put, List.setIfInBounds_toArray, List.set_cons_zero, List.set_cons_succ]
      refine wpAnyH_take (i := 2) (oi := { dst := some 39, op := Op.load 30 (Operand.tmp 3), type := 30, pos := "law.go:99", after := #[{ on := 1, ground := Ground.guard }], guard := some (1, true) }) (v := ?vb2) rfl (by kernel_rfl) (by kernel_rfl) (by kernel_rfl) (fun _ _ _ h => h) (Or.inl ⟨by rfl, ?yb2⟩) (by assumption) ?rb2
      case yb2 => (intro w hSw; (try dsimp only at hSw); go_simp; try with_reducible rfl)
      try simp only [Act.put, List.setIfInBounds_toArray, List.set_cons_zero, List.set_cons_succ]
      refine wpAnyH_take (i := 3) (oi := { dst := some 40, op := Op.move (Operand.tmp 1), type := 3, pos := "law.go:99", after := #[{ on := 1, ground := Ground.guard }], guard := some (1, true) }) (v := ?vb3) rfl (by kernel_rfl) (by kernel_rfl) (by kernel_rfl) (fun _ _ _ h => h) (Or.inl ⟨by rfl, ?yb3⟩) (by assumption) ?rb3
      case yb3 => (intro w hSw; (try dsimp only at hSw); go_simp; try with_reducible rfl)
      try simp only [Act.put, List.setIfInBounds_toArray, List.set_cons_zero, List.set_cons_succ]
      refine wpAnyH_take (i := 4) (oi := { dst := some 41, op := Op.move (Operand.tmp 8), type := 9, pos := "law.go:99", after := #[{ on := 1, ground := Ground.guard }], guard := some (1, true) }) (v := ?vb4) rfl (by kernel_rfl) (by kernel_rfl) (by kernel_rfl) (fun _ _ _ h => h) (Or.inl ⟨by rfl, ?yb4⟩) (by assumption) ?rb4
      case yb4 => (intro w hSw; (try dsimp only at hSw); go_simp; try with_reducible rfl)
      try simp only [Act.put, List.setIfInBounds_toArray, List.set_cons_zero, List.set_cons_succ]
      refine wpAnyH_take (i := 5) (oi := { dst := some 42, op := Op.move (Operand.tmp 7), type := 4, pos := "law.go:99", after := #[{ on := 1, ground := Ground.guard }], guard := some (1, true) }) (v := ?vb5) rfl (by kernel_rfl) (by kernel_rfl) (by kernel_rfl) (fun _ _ _ h => h) (Or.inl ⟨by rfl, ?yb5⟩) (by assumption) ?rb5
      case yb5 => (intro w hSw; (try dsimp only at hSw); go_simp; try with_reducible rfl)
      try simp only [Act.put, List.setIfInBounds_toArray, List.set_cons_zero, List.set_cons_succ]
      refine wpAnyH_take (i := 7) (oi := { dst := some 44, op := Op.load 30 (Operand.tmp 3), type := 30, pos := "law.go:99", after := #[{ on := 1, ground := Ground.guard }], guard := some (1, true) }) (v := ?vb7) rfl (by kernel_rfl) (by kernel_rfl) (by kernel_rfl) (fun _ _ _ h => h) (Or.inl ⟨by rfl, ?yb7⟩) (by assumption) ?rb7
      case yb7 => (intro w hSw; (try dsimp only at hSw); go_simp; try with_reducible rfl)
      try simp only [Act.put, List.setIfInBounds_toArray, List.set_cons_zero, List.set_cons_succ]
      refine wpAnyH_take (i := 8) (oi := { dst := some 45, op := Op.move (Operand.tmp 1), type := 3, pos := "law.go:99", after := #[{ on := 1, ground := Ground.guard }], guard := some (1, true) }) (v := ?vb8) rfl (by kernel_rfl) (by kernel_rfl) (by kernel_rfl) (fun _ _ _ h => h) (Or.inl ⟨by rfl, ?yb8⟩) (by assumption) ?rb8
      case yb8 => (intro w hSw; (try dsimp only at hSw); go_simp; try with_reducible rfl)
      try simp only [Act.put, List.setIfInBounds_toArray, List.set_cons_zero, List.set_cons_succ]
      refine wpAnyH_take (i := 9) (oi := { dst := some 46, op := Op.move (Operand.tmp 8), type := 9, pos := "law.go:99", after := #[{ on := 1, ground := Ground.guard }], guard := some (1, true) }) (v := ?vb9) rfl (by kernel_rfl) (by kernel_rfl) (by kernel_rfl) (fun _ _ _ h => h) (Or.inl ⟨by rfl, ?yb9⟩) (by assumption) ?rb9
      case yb9 => (intro w hSw; (try dsimp only at hSw); go_simp; try with_reducible rfl)
      try simp only [Act.put, List.setIfInBounds_toArray, List.set_cons_zero, List.set_cons_succ]
      refine wpAnyH_take (i := 10) (oi := { dst := some 47, op := Op.move (Operand.tmp 7), type := 4, pos := "law.go:99", after := #[{ on := 1, ground := Ground.guard }], guard := some (1, true) }) (v := ?vb10) rfl (by kernel_rfl) (by kernel_rfl) (by kernel_rfl) (fun _ _ _ h => h) (Or.inl ⟨by rfl, ?yb10⟩) (by assumption) ?rb10
      case yb10 => (intro w hSw; (try dsimp only at hSw); go_simp; try with_reducible rfl)
      try simp only [Act.put, List.setIfInBounds_toArray, List.set_cons_zero, List.set_cons_succ]
      refine wpAnyH_ready (rs := [6]) (by kernel_rfl) (by simp) (AllReadyH.cons (o := { dst := some 43, op := Op.call { callee := Callee.value (Operand.func 11), args := #[Operand.tmp 39, Operand.tmp 40, Operand.tmp 41, Operand.tmp 42], argTypes := #[30, 3, 9, 4] }, type := 3, pos := "law.go:99", after := #[{ on := 2, ground := Ground.data }, { on := 3, ground := Ground.data }, { on := 4, ground := Ground.data }, { on := 5, ground := Ground.data }, { on := 1, ground := Ground.chain }, { on := 1, ground := Ground.guard }], guard := some (1, true) }) rfl (fun K hK => ?_) AllReadyH.nil)
      (go_simp; go_at_call 11; refine (HE.out _ _ _ (HTB.out _ hq2).2.1 (HTB.out _ hq2).2.2).mono ?_; rintro e w3 ⟨rfl, hb3⟩; have hq3 := hq2.trans (hb3.mono hq2.size); dsimp only)
      refine hK.out _ _ (HTB.out _ hq3).1 (fun hHeld => ?_)
      clear hK K
      try simp only [Act.put, List.setIfInBounds_toArray, List.set_cons_zero, List.set_cons_succ]
      refine wpAnyH_ready (rs := [11]) (by kernel_rfl) (by simp) (AllReadyH.cons (o := { dst := some 48, op := Op.call { callee := Callee.value (Operand.func 12), args := #[Operand.tmp 44, Operand.tmp 45, Operand.tmp 46, Operand.tmp 47], argTypes := #[30, 3, 9, 4] }, type := 3, pos := "law.go:99", after := #[{ on := 7, ground := Ground.data }, { on := 8, ground := Ground.data }, { on := 9, ground := Ground.data }, { on := 10, ground := Ground.data }, { on := 6, ground := Ground.chain }, { on := 1, ground := Ground.guard }], guard := some (1, true) }) rfl (fun K hK => ?_) AllReadyH.nil)
      (go_simp; go_at_call 12; refine (HR.out _ _ _ (HTB.out _ hq3).2.2).mono ?_; rintro e w4 ⟨rfl, hb4⟩; have hq4 := hq3.trans (hb4.mono hq3.size); dsimp only)
      refine hK.out _ _ (HTB.out _ hq4).1 (fun hHeld => ?_)
      clear hK K
      try simp only [Act.put, List.setIfInBounds_toArray, List.set_cons_zero, List.set_cons_succ]
      refine wpAnyH_take (i := 12) (oi := { dst := some 49, op := Op.binOp BinOp.eql 3 (Operand.tmp 43) (Operand.tmp 48) 3, type := 4, pos := "law.go:99", after := #[{ on := 6, ground := Ground.data }, { on := 11, ground := Ground.data }, { on := 1, ground := Ground.guard }], guard := some (1, true) }) (v := ?vb12) rfl (by kernel_rfl) (by kernel_rfl) (by kernel_rfl) (fun _ _ _ h => h) (Or.inl ⟨by rfl, ?yb12⟩) (by assumption) ?rb12
      case yb12 => (intro w hSw; (try dsimp only at hSw); go_simp; try with_reducible rfl)
      try simp only [Act.put, List.setIfInBounds_toArray, List.set_cons_zero, List.set_cons_succ]
      refine wpAnyH_take (i := 13) (oi := { dst := some 50, op := Op.pick (Operand.tmp 38) (Operand.tmp 49) (Operand.const (Value.bool false)), type := 4, pos := "law.go:99", after := #[{ on := 1, ground := Ground.data }, { on := 12, ground := Ground.data }], guard := none }) (v := ?vb13) rfl (by kernel_rfl) (by kernel_rfl) (by kernel_rfl) (fun _ _ _ h => h) (Or.inl ⟨by rfl, ?yb13⟩) (by assumption) ?rb13
      case yb13 => (intro w hSw; (try dsimp only at hSw); go_simp; try with_reducible rfl)
      try simp only [Act.put, List.setIfInBounds_toArray, List.set_cons_zero, List.set_cons_succ]
      refine wpAnyH_take (i := 14) (oi := { dst := some 6, op := Op.assign (Operand.tmp 50), type := 4, pos := "law.go:99", after := #[{ on := 13, ground := Ground.data }, { on := 11, ground := Ground.chain }, { on := 0, ground := Ground.phase }, { on := 1, ground := Ground.phase }, { on := 2, ground := Ground.phase }, { on := 3, ground := Ground.phase }, { on := 4, ground := Ground.phase }, { on := 5, ground := Ground.phase }, { on := 6, ground := Ground.phase }, { on := 7, ground := Ground.phase }, { on := 8, ground := Ground.phase }, { on := 9, ground := Ground.phase }, { on := 10, ground := Ground.phase }, { on := 11, ground := Ground.phase }, { on := 12, ground := Ground.phase }, { on := 13, ground := Ground.phase }], guard := none }) (v := ?vb14) rfl (by kernel_rfl) (by kernel_rfl) (by kernel_rfl) (fun _ _ _ h => h) (Or.inl ⟨by rfl, ?yb14⟩) (by assumption) ?rb14
      case yb14 => (intro w hSw; (try dsimp only at hSw); go_simp; try with_reducible rfl)
      try simp only [Act.put, List.setIfInBounds_toArray, List.set_cons_zero, List.set_cons_succ]
      refine wpAnyH_done (by kernel_rfl) ?_ _
      go_wp2_with fail
      go_ret
      exact ⟨congrArg (fun b => Ending.returned (Value.bool b)) (by simp), HB.out.trans (hq4.mono (by omega))⟩
end Go.Proofs.YtfbaikijnjafbaaDoor
