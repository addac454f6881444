/- Inside of package symbols. Conditions: what the theorem names. -/
import Derived.Test.YtfbaikijnjafbaaGreatDoorSh2
import Derived.Test.YtfbaikijnjafbaaGreatDoorLf
namespace Go.Proofs.YtfbaikijnjafbaaGreatDoor
set_option linter.unusedSimpArgs false
set_option linter.unusedVariables false
open Go.RowKit
set_option maxRecDepth 100000

attribute [local go_sem] Oper.semAt_some
def insideM (l : List Cls) (inner outer : Int) : Bool := inM inner l.length && (inM outer l.length && (outL l l.length inner.toNat).contains outer)

theorem prg_agg (P : Prg) : P.agg = .agg #[.slice P.cls.a P.cls.l.length P.cls.cap, .slice P.mth.a P.mth.l.length P.mth.cap, .slice P.fld.a P.fld.l.length P.fld.cap, .slice P.tpm.a P.tpm.l.length P.tpm.cap, .slice P.tym.a P.tym.l.length P.tym.cap, I P.main] := rfl
abbrev prgCells (P : Prg) : Array Value := #[.slice P.cls.a P.cls.l.length P.cls.cap, .slice P.mth.a P.mth.l.length P.mth.cap, .slice P.fld.a P.fld.l.length P.fld.cap, .slice P.tpm.a P.tpm.l.length P.tpm.cap, .slice P.tym.a P.tym.l.length P.tym.cap, I P.main]

theorem tl_made {ok : Nat → Prop} {P : Prg} {w W : World} (hp : PrgL ok w P) (hok : ∀ k, ok k → k < w.heap.size) (hb : Below w.heap.size w W) : TL (W.alloc (.cells (prgCells P) 78)) W.heap.size P :=
  ⟨heap_alloc_new W _, (hp.same (w' := W.alloc (.cells (prgCells P) 78)) fun k hk => by
    rw [Below.heap_alloc _ _ _ (Nat.lt_of_lt_of_le (hok k hk) hb.size)]
    exact hb.block k (hok k hk)).imp fun k hk => Nat.lt_of_lt_of_le (hok k hk) hb.size⟩

theorem calls_marks {f : FuncId} {fn : Func} {c : Code} {args : Array Value} {w : World} {R : Ending → World → Prop} (hf : Tryz.prog.funcs[f]? = some fn) (hb : fn.body = some c)
    (h : c.wp Tryz.prog (bodyPostM Fence.wide 8 Tryz.prog fn R) { tmps := args ++ Array.replicate (fn.ntmps - args.size) undef, defers := [] } w) : Calls Tryz.prog f args w R :=
  callsIn_wide.1 (callsIn_of_wp_marks hf hb trivial ((wpIn_wide (n := 8)).2 h))
theorem allocs2 (wb : World) (o1 o2 : Obj) : ((wb.alloc o1).alloc o2).heap[wb.heap.size]? = some o1 ∧ ((wb.alloc o1).alloc o2).heap[wb.heap.size + 1]? = some o2 ∧ ((wb.alloc o1).alloc o2).heap.size = wb.heap.size + 2 ∧ Below wb.heap.size wb ((wb.alloc o1).alloc o2) := by
  refine ⟨(Below.heap_alloc _ _ _ (by simp)).trans (heap_alloc_new wb _), heap_alloc2_new wb o1 o2, by simp, ((Below.refl _ _).alloc (Nat.le_refl _) _).alloc (by simp) _⟩
theorem set_block (W : World) (k : Nat) (v u : Value) (t : TypeId) (h : W.heap[k]? = some (.cells #[u] t)) : (W.setCell ⟨k, 0, none⟩ v).heap[k]? = some (.cells #[v] t) := by
  simp [World.setCell, Array.getElem?_modify, h]

theorem below_lets {N : Nat} {w W W' : World} (h : Below N w W) (hb : Below 0 W W') (hk : ∀ k, k < N → W'.heap[k]? = W.heap[k]?) : Below N w W' :=
  ⟨hb.os.trans h.os, hb.tape.trans h.tape, hb.output.trans h.output, Nat.le_trans h.size hb.size, fun k hlt => (hk k hlt).trans (h.block k hlt)⟩
theorem lt_of_block {W : World} {k : Nat} {o : Obj} (h : W.heap[k]? = some o) : k < W.heap.size := (Array.getElem?_eq_some_iff.1 h).1
theorem contains_snoc (pre : List Int) (x y : Int) : (pre ++ [x]).contains y = (pre.contains y || x == y) := by
  rw [Bool.eq_iff_iff, List.contains_iff_mem, Bool.or_eq_true, List.contains_iff_mem, beq_iff_eq, List.mem_append, List.mem_singleton]
  constructor
  · rintro (h | h)
    · exact .inl h
    · exact .inr h.symm
  · rintro (h | h)
    · exact .inl h
    · exact .inr h.symm
theorem contains_prefix {pre xs : List Int} {y : Int} (h : pre <+: xs) (hp : pre.contains y = true) : xs.contains y = true := by
  rw [List.contains_iff_mem] at hp ⊢
  exact h.subset hp

set_option maxHeartbeats 1600000 in
theorem inside15_any {ok : Nat → Prop} (P : Prg) (inner outer : Int) (w : World) (hp : PrgL ok w P) (hok : ∀ k, ok k → k < w.heap.size) :
    Calls Tryz.prog 19 #[P.agg, I inner, I outer] w (Bof w (.bool (insideM P.cls.l inner outer))) := by
  have hb3 : Below w.heap.size w (((w.alloc (.cells (prgCells P) 28)).alloc (.cells #[I outer] 3)).alloc (.cells #[.bool false] 4)) := (((Below.refl _ _).alloc (Nat.le_refl _) _).alloc (by simp) _).alloc (by simp; omega) _
  have hT := tl_made hp hok hb3
  have hO : ((((w.alloc (.cells (prgCells P) 28)).alloc (.cells #[I outer] 3)).alloc (.cells #[.bool false] 4)).alloc (.cells (prgCells P) 78)).heap[w.heap.size + 1]? = some (.cells #[I outer] 3) := by
    rw [Below.heap_alloc _ _ _ (by simp), Below.heap_alloc _ _ _ (by simp)]
    have := heap_alloc_new (w.alloc (.cells (prgCells P) 28)) (.cells #[I outer] 3)
    rwa [World.size_alloc] at this
  have hQ : ((((w.alloc (.cells (prgCells P) 28)).alloc (.cells #[I outer] 3)).alloc (.cells #[.bool false] 4)).alloc (.cells (prgCells P) 78)).heap[w.heap.size + 1 + 1]? = some (.cells #[.bool false] 4) := by
    rw [Below.heap_alloc _ _ _ (by simp)]
    have := heap_alloc_new ((w.alloc (.cells (prgCells P) 28)).alloc (.cells #[I outer] 3)) (.cells #[.bool false] 4)
    rwa [World.size_alloc, World.size_alloc] at this
  have hb4 : Below w.heap.size w ((((w.alloc (.cells (prgCells P) 28)).alloc (.cells #[I outer] 3)).alloc (.cells #[.bool false] 4)).alloc (.cells (prgCells P) 78)) := hb3.alloc (by simp; omega) _
  have hz4 : ((((w.alloc (.cells (prgCells P) 28)).alloc (.cells #[I outer] 3)).alloc (.cells #[.bool false] 4)).alloc (.cells (prgCells P) 78)).heap.size = w.heap.size + 4 := by simp
  rw [World.size_alloc, World.size_alloc, World.size_alloc] at hT
  have HT := Lib.hid hT
  have HO := Lib.hid hO
  have HQ := Lib.hid hQ
  have HB := Lib.hid hb4
  have HZ := Lib.hid hz4
  clear hT hO hQ hb4 hz4 hb3 hp hok
  rw [prg_agg]
  unfold Bof
  generalize hres : insideM P.cls.l inner outer = res
  have HR := Lib.hid hres
  clear hres
  refine calls_marks Tryz.func19 rfl ?_
  simp only [Tryz.ntmps19, List.size_toArray, List.length_cons, List.length_nil, Nat.reduceAdd, Nat.reduceSub, Array.replicate_succ, Array.replicate_zero, List.push_toArray, List.append_toArray, List.nil_append, List.cons_append]
  go_upto_region 2 with fail
  change Code.wp _ _ _ _ ((((w.alloc (.cells (prgCells P) 28)).alloc (.cells #[I outer] 3)).alloc (.cells #[.bool false] 4)).alloc (.cells (prgCells P) 78))
  generalize ((((w.alloc (.cells (prgCells P) 28)).alloc (.cells #[I outer] 3)).alloc (.cells #[.bool false] 4)).alloc (.cells (prgCells P) 78)) = wb at *
  have yO : wb.cell? ⟨w.heap.size + 1, 0, none⟩ = some (I outer) := cell_of_row wb _ 0 _ _ _ HO.out
  have yQ : wb.cell? ⟨w.heap.size + 1 + 1, 0, none⟩ = some (.bool false) := cell_of_row wb _ 0 _ _ _ HQ.out
  have fQ : wb.frozen? ⟨w.heap.size + 1 + 1, 0, none⟩ = false := by simp [World.frozen?, HQ.out]
  have HZ1 : Hid (sizeM P 1 = P.cls.l.length) := Lib.hid rfl
  cases e1 : inM inner P.cls.l.length with
  | false =>
    obtain rfl : false = res := by have := HR.out; unfold insideM at this; rw [e1, Bool.false_and] at this; exact this
    go_wp2_with (first | (go_at_call 41; refine (has_any P _ _ _ _ HT.out).mono ?_; rintro e w2 ⟨rfl, rfl⟩; dsimp only; rw [HZ1.out, e1]))
    refine ⟨.bool false, ?_, rfl, HB.out.setCell (by show _ ≤ w.heap.size + 1 + 1; omega) _⟩
    have hc5 : (wb.setCell ⟨w.heap.size + 1 + 1, 0, none⟩ (.bool false)).cell? ⟨w.heap.size + 1 + 1, 0, none⟩ = some (.bool false) := cell_of_row _ _ 0 _ _ _ (set_block wb _ _ _ _ HQ.out)
    simp [results, Tryz.f19, go_sem, hc5]
  | true =>
    cases e2 : inM outer P.cls.l.length with
    | false =>
      obtain rfl : false = res := by have := HR.out; unfold insideM at this; rw [e1, e2, Bool.false_and, Bool.and_false] at this; exact this
      go_wp2_with (first | (go_at_call 41; refine (has_any P _ _ _ _ HT.out).mono ?_; rintro e w2 ⟨rfl, rfl⟩; dsimp only; (first | rw [HZ1.out, e1] | rw [HZ1.out, e2])))
      refine ⟨.bool false, ?_, rfl, HB.out.setCell (by show _ ≤ w.heap.size + 1 + 1; omega) _⟩
      have hc5 : (wb.setCell ⟨w.heap.size + 1 + 1, 0, none⟩ (.bool false)).cell? ⟨w.heap.size + 1 + 1, 0, none⟩ = some (.bool false) := cell_of_row _ _ 0 _ _ _ (set_block wb _ _ _ _ HQ.out)
      simp [results, Tryz.f19, go_sem, hc5]
    | true =>
      have r1 : (outL P.cls.l P.cls.l.length inner.toNat).contains outer = res := by have := HR.out; unfold insideM at this; rw [e1, e2, Bool.true_and, Bool.true_and] at this; exact this
      obtain ⟨x0, rfl, hx, hx0⟩ := inM_at e1
      rw [hx] at r1
      have R1 := Lib.hid r1
      have X0 := Lib.hid hx0
      clear HR hx r1 hx0
      go_upto_region 4 with (first | (go_at_call 41; refine (has_any P _ _ _ _ HT.out).mono ?_; rintro e w2 ⟨rfl, rfl⟩; dsimp only; (first | rw [HZ1.out, e1] | rw [HZ1.out, e2])))
      go_wp2_with (first | (go_at_call 45; refine (outward_any _ _ _).mono ?_; rintro e w2 ⟨rfl, rfl⟩; dsimp only))
      obtain ⟨ha1, ha2, ha3, ha4⟩ := allocs2 wb (.cells #[ptr (w.heap.size + 1 + 1 + 1)] 76) (.cells #[I x0] 3)
      have hz := HZ.out
      generalize hN : w.heap.size = N at *
      have hTL := HT.out.below ha4
      have hO2 : ((wb.alloc (.cells #[ptr (N + 1 + 1 + 1)] 76)).alloc (.cells #[I x0] 3)).heap[N + 1]? = some (.cells #[I outer] 3) := (ha4.block _ (by omega)).trans HO.out
      have hQ2 : ((wb.alloc (.cells #[ptr (N + 1 + 1 + 1)] 76)).alloc (.cells #[I x0] 3)).heap[N + 1 + 1]? = some (.cells #[.bool false] 4) := (ha4.block _ (by omega)).trans HQ.out
      have hB2 : Below N w ((wb.alloc (.cells #[ptr (N + 1 + 1 + 1)] 76)).alloc (.cells #[I x0] 3)) := HB.out.trans (ha4.mono (by omega))
      rw [hz] at ha1 ha2 ha3 ⊢
      generalize ((wb.alloc (.cells #[ptr (N + 1 + 1 + 1)] 76)).alloc (.cells #[I x0] 3)) = wc at *
      refine range_law (gf := 85) (lb := #[ptr (N + 4), ptr (N + 4 + 1)]) rfl (enters_of Tryz.func85 (by kernel_rfl) rfl) rfl (N + 5) (by omega) (fun k => k ≤ N + 4 ∨ k = N + 5) (fun k hk => by omega) (outL P.cls.l P.cls.l.length x0)
        (fun pre W => pre.contains outer = false ∧ W.heap[N + 1]? = some (.cells #[I outer] 3) ∧ W.heap[N + 1 + 1]? = some (.cells #[.bool false] 4) ∧ TL W (N + 1 + 1 + 1) P ∧ Below N w W)
        (fun c pre W => c = .ret ∧ pre.contains outer = true ∧ W.heap[N + 1 + 1]? = some (.cells #[.bool true] 4) ∧ Below N w W)
        ?hI ?hIx ⟨rfl, hO2, hQ2, hTL, hB2⟩ ?iter ?a1 ?assign ?body ?done ?stop
      case assign =>
        intro l x W K hK
        gi_wp2
        exact hK
      case hI =>
        intro pre W W' ⟨h1, h2, h3, h4, h5⟩ hb hk
        have hlt := h4.lt
        exact ⟨h1, (hk _ (lt_of_block h2) (by omega)).trans h2, (hk _ (lt_of_block h3) (by omega)).trans h3, h4.move fun k hk' => hk k (by omega) (by omega), below_lets h5 hb fun k hk' => hk k (by omega) (by omega)⟩
      case hIx =>
        intro c pre W W' ⟨h1, h2, h3, h5⟩ hb hk
        exact ⟨h1, h2, (hk _ (lt_of_block h3) (by omega)).trans h3, below_lets h5 hb fun k hk' => hk k (by have := lt_of_block h3; omega) (by omega)⟩
      case iter =>
        intro l J Jx W hW hJ hY h0
        exact outward1_any l (N + 3) (N + 4) (N + 5) P x0 J Jx (by omega) (by omega) hJ hY W (hTL.below hW) ((hW.block _ (by omega)).trans ha1) ((hW.block _ (by omega)).trans ha2) X0.out h0
      case body =>
        intro l pre x W hW ⟨h1, h2, h3, h4, h5⟩
        have yO : W.cell? ⟨N + 1, 0, none⟩ = some (I outer) := cell_of_row W _ 0 _ _ _ h2
        have yQ : W.cell? ⟨N + 1 + 1, 0, none⟩ = some (.bool false) := cell_of_row W _ 0 _ _ _ h3
        have fQ : W.frozen? ⟨N + 1 + 1, 0, none⟩ = false := by simp [World.frozen?, h3]
        have H3 := Lib.hid h3
        have H5 := Lib.hid h5
        have HI : Hid (∀ b, (pre ++ [x]).contains outer = b → b = false → (pre ++ [x]).contains outer = false ∧ W.heap[N + 1]? = some (.cells #[I outer] 3) ∧ W.heap[N + 1 + 1]? = some (.cells #[.bool false] 4) ∧ TL W (N + 1 + 1 + 1) P ∧ Below N w W) := Lib.hid fun b hb hb' => ⟨hb.trans hb', h2, h3, h4, h5⟩
        have HC := Lib.hid (contains_snoc pre x outer)
        have HP := Lib.hid h1
        clear h1 h2 h3 h4 h5
        cases e : (x == outer) with
        | true =>
          gi_wp2
          refine ⟨⟨Below.heap_setCell _ _ _ _ (by show _ ≠ N + 1 + 1; omega), Below.heap_setCell _ _ _ _ (by show _ ≠ N + 1 + 1; omega)⟩, rfl, ?_, set_block W _ _ _ _ H3.out, H5.out.setCell (by show _ ≤ N + 1 + 1; omega) _⟩
          rw [HC.out, e, Bool.or_true]
        | false =>
          gi_wp2
          exact ⟨⟨rfl, rfl⟩, fun k _ => rfl, HI.out _ (by rw [HC.out, e, Bool.or_false]) HP.out⟩
      case done =>
        intro W ⟨h1, h2, h3, h4, h5⟩ hK
        obtain rfl : false = res := h1.symm.trans R1.out
        have yQ : W.cell? ⟨N + 1 + 1, 0, none⟩ = some (.bool false) := cell_of_row W _ 0 _ _ _ h3
        have fQ : W.frozen? ⟨N + 1 + 1, 0, none⟩ = false := by simp [World.frozen?, h3]
        have H3 := Lib.hid h3
        have H5 := Lib.hid h5
        have HK := Lib.hid hK
        clear h1 h2 h3 h4 h5 hK
        go_wp2_with fail
        have hK' : (W.setCell ⟨N + 1 + 1, 0, none⟩ (.bool false)).heap[wc.heap.size]? = some (.deferred (some [])) := (Below.heap_setCell _ _ _ _ (by show _ ≠ N + 1 + 1; omega)).trans HK.out
        refine ⟨by simp, .inl ⟨_, _, rfl, run_takeDeferred hK', ?_⟩⟩
        have hc5 : ((W.setCell ⟨N + 1 + 1, 0, none⟩ (.bool false)).putObj wc.heap.size (.deferred none)).cell? ⟨N + 1 + 1, 0, none⟩ = some (.bool false) :=
          cell_of_row _ _ 0 _ _ _ ((World.putObj_heap_other (by omega)).trans (set_block W _ _ _ _ H3.out))
        refine ⟨.bool false, ?_, rfl, by rw [hN]; exact below_lets (H5.out.setCell (by show _ ≤ N + 1 + 1; omega) _) ⟨rfl, rfl, rfl, by simp, fun k hk => absurd hk (Nat.not_lt_zero _)⟩ fun k hk => World.putObj_heap_other (by omega)⟩
        simp [results, Tryz.f19, go_sem, hc5]
      case stop =>
        rintro c pre W hpre ⟨rfl, h2, h3, h5⟩ hK
        obtain rfl : true = res := (contains_prefix hpre h2).symm.trans R1.out
        have H3 := Lib.hid h3
        have H5 := Lib.hid h5
        have HK := Lib.hid hK
        clear h2 h3 h5 hK
        go_wp2_with fail
        refine ⟨by simp, .inl ⟨_, _, rfl, run_takeDeferred HK.out, ?_⟩⟩
        have hc5 : (W.putObj wc.heap.size (.deferred none)).cell? ⟨N + 1 + 1, 0, none⟩ = some (.bool true) := cell_of_row _ _ 0 _ _ _ ((World.putObj_heap_other (by omega)).trans H3.out)
        refine ⟨.bool true, ?_, rfl, by rw [hN]; exact below_lets H5.out ⟨rfl, rfl, rfl, by simp, fun k hk => absurd hk (Nat.not_lt_zero _)⟩ fun k hk => World.putObj_heap_other (by omega)⟩
        simp [results, Tryz.f19, go_sem, hc5]
end Go.Proofs.YtfbaikijnjafbaaGreatDoor
