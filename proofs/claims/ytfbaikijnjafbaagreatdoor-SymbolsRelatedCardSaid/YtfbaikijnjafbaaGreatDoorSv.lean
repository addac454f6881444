/- The iterator over the classes around a class, for bodies that write blocks of their caller's. Conditions: what the theorem names. -/
import Derived.Test.YtfbaikijnjafbaaGreatDoorSh2
namespace Go.Proofs.YtfbaikijnjafbaaGreatDoor
set_option linter.unusedSimpArgs false
set_option linter.unusedVariables false
open Go.RowKit
set_option maxRecDepth 100000

attribute [local go_sem] Oper.semAt_some
set_option maxHeartbeats 1600000 in
theorem outward1w_any (l T tb cb : Nat) (P : Prg) (c0 : Nat) (J Jx : List Int → World → Prop)
    (hT : T < tb) (hc : tb < cb)
    (hJ : ∀ pre W W', J pre W → Below 0 W W' → (∀ k, k ≠ cb → W'.heap[k]? = W.heap[k]?) → J pre W')
    (hY : ∀ pre x W, J pre W → pre.length < P.cls.l.length → YieldAt Fence.wide 7 Tryz.prog l #[I x] W fun e W' =>
      (e = .returned (.bool true) ∧ J (pre ++ [x]) W' ∧ (∀ k, k ≤ T ∨ k = tb ∨ k = cb → W'.heap[k]? = W.heap[k]?)) ∨ (e = .returned (.bool false) ∧ Jx (pre ++ [x]) W'))
    (W : World) (h : TL W T P) (hb1 : W.heap[tb]? = some (.cells #[ptr T] 76)) (hb2 : W.heap[cb]? = some (.cells #[I c0] 3)) (hc0 : c0 < P.cls.l.length) (h0 : J [] W) :
    Calls Tryz.prog 85 #[.func (.yield l) #[] #[], ptr tb, ptr cb] W fun e W' => (∃ v, e = .returned v) ∧ (J (outL P.cls.l P.cls.l.length c0) W' ∨ ∃ pre, pre <+: outL P.cls.l P.cls.l.length c0 ∧ Jx pre W') := by
  obtain ⟨b, o, ha, _, _⟩ := sl_at h.prg.cls (by omega)
  obtain ⟨⟨ca, cc, cl⟩, mth, fld, tpm, tym, main⟩ := P
  dsimp only at ha
  subst ha
  dsimp only at hc0 ⊢
  have HL := Lib.hid (show cl.length ≤ 140737488355328 by have h1 := h.prg.cls.1; have h2 := h.prg.cls.2.1; dsimp only at h1 h2; omega)
  have HJ := Lib.hid hJ
  have HY := Lib.hid hY
  have HH := Lib.hid h
  have H0 := Lib.hid h0
  have H1 := Lib.hid hb1
  have H2 := Lib.hid hb2
  obtain ⟨x0, _, _, _, _, _⟩ := h.cells
  dsimp only at x0
  have xt : W.cell? ⟨tb, 0, none⟩ = some (ptr T) := cell_of_row W tb 0 _ _ _ hb1
  clear hJ hY h h0 hb1 hb2
  go_enter Tryz.func85, Tryz.ntmps85
  go_wp2_with fail
  clear xt x0
  go_loopg [10] (cl.length + 1) (fun n v wr => ∃ i x : Nat, ∃ pre : List Int, i ≤ cl.length ∧ v = .int .i64 i ∧ Hid (x < cl.length) ∧ Hid (n = cl.length + 1 - i) ∧ Hid (outL cl cl.length c0 = pre ++ outL cl (cl.length - i) x) ∧
    Hid (pre.length = i) ∧ Hid (J pre wr) ∧ Hid (TL wr T ⟨⟨some ⟨b, o, none⟩, cc, cl⟩, mth, fld, tpm, tym, main⟩) ∧ Hid (wr.heap[tb]? = some (.cells #[ptr T] 76)) ∧ Hid (wr.heap[cb]? = some (.cells #[I x] 3)))
  case atStart => exact ⟨0, c0, [], by omega, rfl, hc0, rfl, rfl, rfl, H0.out, HH.out, H1.out, H2.out⟩
  case round =>
    obtain ⟨i, x, pre, hi, rfl, HX, HN, HO, HPL, HJ0, HH, H1, H2⟩ := hrel
    have hL := HL.out
    by_cases hlt : i < cl.length
    · have d2 : ((i : Int) < (cl.length : Int)) := by omega
      have hxl := HX.out
      have dx : ((x : Int) < (cl.length : Int)) := by omega
      obtain ⟨y0, _, _, _, _, _⟩ := HH.out.cells
      dsimp only at y0
      obtain ⟨b', o', ha, hok, hcs⟩ := sl_at HH.out.prg.cls (by show 0 < cl.length; omega)
      obtain ⟨rfl, rfl⟩ : b = b' ∧ o = o' := by simpa using ha
      clear ha
      obtain ⟨t0, t1, t2, t3, t4, t5, t6, t7, t8, t9, t10, t11, t12⟩ := cls_cells0 (hcs x hxl)
      clear t0 t1 t2 t4 t5 t6 t7 t8 t9 t10 t11 t12
      have xt : wr.cell? ⟨tb, 0, none⟩ = some (ptr T) := cell_of_row wr tb 0 _ _ _ H1.out
      have xc : wr.cell? ⟨cb, 0, none⟩ = some (I x) := cell_of_row wr cb 0 _ _ _ H2.out
      have xf : wr.frozen? ⟨cb, 0, none⟩ = false := by simp [World.frozen?, H2.out]
      have hne : tb ≠ cb := by omega
      go_upto_region 2 with fail
      go_region
      obtain ⟨wa, hwa⟩ : ∃ wa, (wr.setCell ⟨cb, 0, none⟩ (I cl[x].owner)).drew = wa := ⟨_, rfl⟩
      have hsz : Below 0 wr wa := by rw [← hwa]; exact ((Below.refl 0 wr).setCell (Nat.zero_le _) _).drew
      have hot : ∀ k, k ≠ cb → wa.heap[k]? = wr.heap[k]? := fun k hk => by rw [← hwa]; simp [World.setCell, World.drew, Array.getElem?_modify, Ne.symm hk]
      have hcb : wa.heap[cb]? = some (.cells #[I cl[x].owner] 3) := by rw [← hwa]; simp [World.setCell, World.drew, Array.getElem?_modify, H2.out]
      rw [show (wr.setCell ⟨cb, 0, none⟩ (Value.int IntKind.i64 cl[x].owner)).drew = wa from hwa]
      have HJa := Lib.hid (HJ.out pre wr wa HJ0.out hsz hot)
      have HHa := Lib.hid (HH.out.move (w' := wa) fun k hk => hot k (by omega))
      have H1a : Hid (wa.heap[tb]? = some (.cells #[ptr T] 76)) := Lib.hid ((hot tb hne).trans H1.out)
      have H2a := Lib.hid hcb
      have xta : wa.cell? ⟨tb, 0, none⟩ = some (ptr T) := cell_of_row wa tb 0 _ _ _ H1a.out
      have xca : wa.cell? ⟨cb, 0, none⟩ = some (I cl[x].owner) := cell_of_row wa cb 0 _ _ _ hcb
      clear hwa hsz hot hcb xt xc xf t3 y0
      go_upto_region 3 with fail
      have HOx : Hid (outL cl cl.length c0 = pre ++ (if inM cl[x].owner cl.length then cl[x].owner :: outL cl (cl.length - (i + 1)) cl[x].owner.toNat else [])) := by
        have h := HO.out
        obtain ⟨m, hm⟩ : ∃ m, cl.length - i = m + 1 := ⟨cl.length - i - 1, by omega⟩
        rw [hm, outL, List.getElem?_eq_getElem hxl] at h
        have hm2 : cl.length - (i + 1) = m := by omega
        rw [hm2]
        exact h
      have hsz1 : sizeM ⟨⟨some ⟨b, o, none⟩, cc, cl⟩, mth, fld, tpm, tym, main⟩ 1 = cl.length := rfl
      have HZ1 := Lib.hid hsz1
      clear HO hsz1
      generalize cl[x].owner = ow at *
      cases e1 : inM ow cl.length with
      | false =>
        have e2 : outL cl cl.length c0 = pre := by have := HOx.out; rw [e1] at this; simpa using this
        have E2 := Lib.hid e2
        clear e2
        go_wp2_with (first | (go_at_call 41; refine (has_any _ T _ _ _ HHa.out).mono ?_; rintro e w2 ⟨rfl, rfl⟩; dsimp only; rw [HZ1.out, e1]))
        refine bodyPost_ret (results_none rfl _ _ _) rfl ?_
        exact ⟨⟨_, rfl⟩, .inl (by rw [E2.out]; exact HJa.out)⟩
      | true =>
        obtain ⟨y, rfl, hyn, hyl⟩ := inM_at e1
        clear hyn
        have hyn : (y : Int).toNat = y := Int.toNat_natCast y
        have e2 : outL cl cl.length c0 = (pre ++ [(y : Int)]) ++ outL cl (cl.length - (i + 1)) y := by have := HOx.out; rw [e1, hyn] at this; simpa using this
        have E2 := Lib.hid e2
        clear e2 HOx hyn
        obtain ⟨fn, tmps, assign, body, hyy, hR⟩ := HY.out pre y wa HJa.out (by have := HPL.out; show _ < cl.length; omega)
        refine (wpIn_wide (n := 8)).1 ?_
        gi_wp2_with (first | (refine ⟨trivial, ?_⟩; gi_at_call 41; refine (callsIn_wide.2 (has_any _ T _ _ _ HHa.out)).mono ?_; rintro e w2 ⟨rfl, rfl⟩; dsimp only; rw [HZ1.out, e1]))
        refine hR.mono ?_
        rintro e W3 (⟨rfl, hJ3, hk3⟩ | ⟨rfl, hJx3⟩)
        · have HJ3 := Lib.hid hJ3
          have HH3 := Lib.hid (HHa.out.move (w' := W3) fun k hk => hk3 k (.inl hk))
          have H13 : Hid (W3.heap[tb]? = some (.cells #[ptr T] 76)) := Lib.hid ((hk3 tb (.inr (.inl rfl))).trans H1a.out)
          have H23 : Hid (W3.heap[cb]? = some (.cells #[I y] 3)) := Lib.hid ((hk3 cb (.inr (.inr rfl))).trans H2a.out)
          have HYL := Lib.hid hyl
          clear hk3 hJ3
          gi_wp2_with fail
          go_wp2_with fail
          go_roundg (cl.length + 1 - (i + 1))
          case measure => have := HN.out; omega
          case rel => exact ⟨i + 1, y, pre ++ [(y : Int)], by omega, by first | go_num | (rw [IntWalk.wrap64_in _ (by omega)]; go_num), HYL.out, rfl, E2.out, (by have := HPL.out; simp; omega), HJ3.out, HH3.out, H13.out, H23.out⟩
        · have HJ3 := Lib.hid hJx3
          clear hJx3
          gi_wp2_with fail
          go_wp2_with fail
          refine bodyPost_ret (results_none rfl _ _ _) rfl ?_
          exact ⟨⟨_, rfl⟩, .inr ⟨pre ++ [(y : Int)], by rw [E2.out]; exact List.prefix_append _ _, HJ3.out⟩⟩
    · obtain rfl : i = cl.length := by omega
      have e2 : outL cl cl.length c0 = pre := by have := HO.out; rw [Nat.sub_self] at this; simpa [outL] using this
      go_wp2_with fail
      go_end0
      exact ⟨⟨_, rfl⟩, .inl (by rw [e2]; exact HJ0.out)⟩


/-- A range over an iterator that turns one block of its own, of n rounds at most. -/
theorem range_law_n {g : Operand} {ps : Array Tmp} {assign body : Code} {Q : Exit → Act → World → Prop} {a : Act} {w : World} {gf : Nat} {lb : Array Value}
    (hg : a.eval g = .func (.func gf) #[] lb) (eg : ∀ args w, (callFunc gf args).run Tryz.prog w = .ok (.enter gf args) w) (hps : ps.size = 1)
    (n : Nat) (cb : Nat) (hcb : cb < w.heap.size) (kp : Nat → Prop) (hkp : ∀ k, kp k → k < w.heap.size) (xs : List Int)
    (I : List Int → World → Prop) (Ix : Code → List Int → World → Prop) (hI : Lets (fun k => k = cb ∨ k = w.heap.size ∨ k = w.heap.size + 1) I) (hIx : ∀ c, Lets (fun k => k = cb ∨ k = w.heap.size ∨ k = w.heap.size + 1) (Ix c)) (h0 : I [] w)
    (hiter : ∀ (l : Nat) (J Jx : List Int → World → Prop) (W : World), Below w.heap.size w W → (∀ pre W W', J pre W → Below 0 W W' → (∀ k, k ≠ cb → W'.heap[k]? = W.heap[k]?) → J pre W') →
      (∀ pre x W, J pre W → pre.length < n → YieldAt Fence.wide 7 Tryz.prog l #[.int .i64 x] W fun e W' => (e = .returned (.bool true) ∧ J (pre ++ [x]) W' ∧ (∀ k, kp k → W'.heap[k]? = W.heap[k]?)) ∨ (e = .returned (.bool false) ∧ Jx (pre ++ [x]) W')) →
      J [] W → Calls Tryz.prog gf (#[.func (.yield l) #[] #[]] ++ lb) W fun e W' => (∃ v, e = .returned v) ∧ (J xs W' ∨ ∃ pre, pre <+: xs ∧ Jx pre W'))
    (a₁ : Int → Act)
    (hassign : ∀ (l : Nat) (x : Int) (W : World) (K : Act → World → Prop), K (a₁ x) W → assign.wpIn (Fence.wide.inRound l) 7 Tryz.prog (Exit.then K (fun _ _ _ => False)) { tmps := (ps.zip #[.int .i64 x]).foldl (fun t (p, v) => t.setIfInBounds p v) a.tmps, defers := [] } W)
    (hbody : ∀ (l : Nat) (pre : List Int) (x : Int) (W : World), w.heap.size + 2 ≤ W.heap.size → I pre W → pre.length < n → body.wpIn (Fence.wide.inRound l) 7 Tryz.prog (rPost kp w.heap.size I Ix (pre ++ [x]) W) (a₁ x) W)
    (hdone : ∀ W : World, I xs W → W.heap[w.heap.size]? = some (.deferred (some [])) → Q .normal { a with defers := { target := .collected w.heap.size, args := #[] } :: a.defers } W)
    (hstop : ∀ (c : Code) (pre : List Int) (W : World), pre <+: xs → Ix c pre W → W.heap[w.heap.size]? = some (.deferred (some [])) → c.wp Tryz.prog Q { a with defers := { target := .collected w.heap.size, args := #[] } :: a.defers } W) :
    (Code.rangeFunc g ps assign body).wp Tryz.prog Q a w := by
  refine (wpIn_wide (n := 8)).1 (wpIn_rangeFunc ?_)
  intro fn hfn
  rw [Fence.wide_round]
  obtain ⟨rec, hrec⟩ : ∃ rec : LoopState → Option Code → Loop, rec = fun st pe => { state := st, pending := pe, fn, tmps := a.tmps, params := ps, assign, body, defers := w.heap.size } := ⟨_, rfl⟩
  obtain ⟨W1, hW1⟩ : ∃ W1, (w.alloc (.deferred (some []))).alloc (.loop (rec .ready none)) = W1 := ⟨_, rfl⟩
  have hz1 : W1.heap.size = w.heap.size + 2 := by rw [← hW1]; simp
  have hL1 : W1.heap[w.heap.size + 1]? = some (.loop (rec .ready none)) := by
    rw [← hW1]; have := World.alloc_heap_new (w.alloc (.deferred (some []))) (.loop (rec .ready none)); rwa [World.size_alloc] at this
  have hK1 : W1.heap[w.heap.size]? = some (.deferred (some [])) := by
    rw [← hW1]; exact (Below.heap_alloc _ _ _ (by simp)).trans (World.alloc_heap_new w _)
  have hb1 : Below w.heap.size w W1 := by rw [← hW1]; exact ((Below.refl _ w).alloc (Nat.le_refl _) _).alloc (by simp) _
  have hI1 : I [] W1 := hI _ _ _ h0 (hb1.mono (Nat.zero_le _)) fun k hk _ => hb1.block k hk
  refine ⟨w.heap.size + 1, [{ target := .collected w.heap.size, args := #[] }], W1, { target := .fn (.func gf) lb, args := #[.func (.yield (w.heap.size + 1)) #[] #[]] }, W1, gf,
    #[.func (.yield (w.heap.size + 1)) #[] #[]] ++ lb, W1, ?_, ?_, ?_, ?_, fun _ => by omega, callsIn_wide.2 ?_⟩
  · rw [← hW1, hrec]; exact run_enterLoop_outer _ _ _ _ _
  · simp only [resolve, hg]
    simp [go_sem]
  · intro f' _; trivial
  · simp [invoke, go_sem, eg]
  · have other : ∀ (W : World) (o : Obj) k, k ≠ w.heap.size + 1 → (W.putObj (w.heap.size + 1) o).heap[k]? = W.heap[k]? := fun W o k hk => World.putObj_heap_other hk
    have put : ∀ {J : List Int → World → Prop}, Lets (fun k => k = cb ∨ k = w.heap.size ∨ k = w.heap.size + 1) J → ∀ pre W o, J pre W → J pre (W.putObj (w.heap.size + 1) o) := fun hJ pre W o hj =>
      hJ _ _ _ hj ⟨rfl, rfl, rfl, by simp, fun k hk => absurd hk (Nat.not_lt_zero _)⟩ fun k _ hn => other W o k fun e => hn (.inr (.inr e))
    refine (hiter (w.heap.size + 1)
      (fun pre W => I pre W ∧ W.heap[w.heap.size + 1]? = some (.loop (rec .ready none)) ∧ W.heap[w.heap.size]? = some (.deferred (some [])))
      (fun pre W => ∃ c, Ix c pre W ∧ W.heap[w.heap.size + 1]? = some (.loop (rec .done (some c))) ∧ W.heap[w.heap.size]? = some (.deferred (some [])))
      W1 hb1 ?_ ?_ ⟨hI1, hL1, hK1⟩).mono ?_
    · rintro pre W W' ⟨h1, h2, h3⟩ hs hk
      exact ⟨hI _ _ _ h1 hs fun k _ hn => hk k fun e => hn (.inl e), (hk _ (by omega)).trans h2, (hk _ (by omega)).trans h3⟩
    · rintro pre x W ⟨hi, hl, hk⟩ hlen
      have hlt : w.heap.size + 1 < W.heap.size := (Array.getElem?_eq_some_iff.1 hl).1
      have hy := run_yield (P := Tryz.prog) (args := #[.int .i64 x]) hl (by rw [hrec]; exact hps.symm)
      rw [hrec] at hy
      refine ⟨fn, _, assign, body, hy, roundIn_of_wpIn trivial (hassign _ x W _ ⟨_, run_beginRound hl (by rw [hrec]), ?_⟩)⟩
      obtain ⟨busy, hbusy⟩ : ∃ busy, (Obj.loop { rec .ready none with state := .busy }) = busy := ⟨_, rfl⟩
      rw [hrec] at hbusy
      refine wpIn_mono (hbody _ pre x _ (by simp; omega) (put hI pre W _ hi) hlen) ?_
      rintro e a3 W3 hp
      have fin : ∀ (jump : Option Code) (W3 : World), W3.heap[w.heap.size]? = W.heap[w.heap.size]? → W3.heap[w.heap.size + 1]? = some (.loop { rec .ready none with state := .busy }) →
          ∃ W4, (Instr.endRound (w.heap.size + 1) jump).run Tryz.prog W3 = .ok (.bool jump.isNone) W4 ∧ W4.heap.size = W3.heap.size ∧ W4.heap[w.heap.size + 1]? = some (.loop (rec (if jump.isNone then .ready else .done) jump)) ∧ W4.heap[w.heap.size]? = some (.deferred (some [])) ∧ W4 = W3.putObj (w.heap.size + 1) (.loop (rec (if jump.isNone then .ready else .done) jump)) := fun jump W3 hk3 hl3 => by
        have := run_endRound (P := Tryz.prog) jump hl3
        refine ⟨_, ?_, by simp, World.putObj_heap_same (Array.getElem?_eq_some_iff.1 hl3).1, (other _ _ _ (by omega)).trans (hk3.trans hk), rfl⟩
        rw [this, hrec]
      have hb2 : (W.putObj (w.heap.size + 1) (.loop { rec .ready none with state := .busy })).heap[w.heap.size + 1]? = some (.loop { rec .ready none with state := .busy }) := World.putObj_heap_same hlt
      have hd2 : (W.putObj (w.heap.size + 1) (.loop { rec .ready none with state := .busy })).heap[w.heap.size]? = W.heap[w.heap.size]? := other _ _ _ (by omega)
      cases e with
      | normal =>
        obtain ⟨⟨p1, p2⟩, p3, hi3⟩ := hp
        obtain ⟨W4, hr, hs4, hl4, hk4, rfl⟩ := fin none W3 (p1.trans hd2) (p2.trans hb2)
        refine ⟨_, _, hr, .inl ⟨rfl, ⟨put hI _ _ _ hi3, hl4, hk4⟩, fun k hk => ?_⟩⟩
        rw [other _ _ _ (by have := hkp k hk; omega), p3 k hk, other _ _ _ (by have := hkp k hk; omega)]
      | ret =>
        obtain ⟨⟨p1, p2⟩, hi3⟩ := hp
        obtain ⟨W4, hr, hs4, hl4, hk4, rfl⟩ := fin (some .ret) W3 (p1.trans hd2) (p2.trans hb2)
        exact ⟨_, _, hr, .inr ⟨rfl, .ret, put (hIx _) _ _ _ hi3, hl4, hk4⟩⟩
      | exit id =>
        obtain ⟨⟨p1, p2⟩, hi3⟩ := hp
        obtain ⟨W4, hr, hs4, hl4, hk4, rfl⟩ := fin (some (.exit id)) W3 (p1.trans hd2) (p2.trans hb2)
        exact ⟨_, _, hr, .inr ⟨rfl, .exit id, put (hIx _) _ _ _ hi3, hl4, hk4⟩⟩
      | goto t => exact hp.elim
      | panic ch => exact hp.elim
      | outgrown => exact hp.elim
    · rintro e W2 ⟨⟨v, rfl⟩, (⟨hi, hl, hk⟩ | ⟨pre, hSp, c, hi, hl, hk⟩)⟩
      · exact ⟨none, _, by have := run_endLoop (P := Tryz.prog) hl (by rw [hrec]; simp); rw [hrec] at this; exact this, hdone _ (put hI _ _ _ hi) ((other _ _ _ (by omega)).trans hk)⟩
      · exact ⟨some c, _, by have := run_endLoop (P := Tryz.prog) hl (by rw [hrec]; simp); rw [hrec] at this; exact this, (wpIn_wide (n := 8)).2 (hstop c pre _ hSp (put (hIx c) _ _ _ hi) ((other _ _ _ (by omega)).trans hk))⟩
end Go.Proofs.YtfbaikijnjafbaaGreatDoor
