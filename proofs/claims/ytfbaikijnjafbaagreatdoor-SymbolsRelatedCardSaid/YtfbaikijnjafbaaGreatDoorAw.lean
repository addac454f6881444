/- awake, as a function of what FullName, Check and Ancestors give on its two programs. -/
import Derived.Test.YtfbaikijnjafbaaGreatDoorEq
namespace Go.Proofs.YtfbaikijnjafbaaGreatDoor
set_option linter.unusedSimpArgs false
set_option linter.unusedVariables false
open Go.RowKit
set_option maxRecDepth 100000

theorem slAt_block {α : Type} {cells : α → List Value} {st by_ N cap : Nat} {ok : Nat → Prop} {W : World} {l : List α} {cur : Array Value} {t : TypeId} (hst : ∀ x, (cells x).length = st) (hN : W.heap[N]? = some (.cells cur t (0, 0)))
    (hcur : ∀ j, j < l.length * st → cur[j]? = (l.flatMap cells)[j]?) (hok : ok N) (hc : l.length ≤ cap) (hb : l.length * by_ ≤ 140737488355328) : SlAt ok W st by_ cells ⟨some ⟨N, 0, none⟩, cap, l⟩ := by
  refine ⟨hc, hb, .inr ⟨N, 0, rfl, hok, fun i hi => ?_⟩⟩
  intro j hj
  rw [hst] at hj
  have hlt : i * st + j < l.length * st := by
    have : (i + 1) * st ≤ l.length * st := Nat.mul_le_mul_right st hi
    rw [Nat.add_mul] at this
    omega
  rw [cell_of_row W N _ _ _ _ hN, Nat.zero_add, hcur _ hlt, flat_at hst l i hi j hj]

abbrev nilS {α : Type} : Sl α := ⟨none, 0, []⟩
abbrev E0 : ByteArray := ⟨#[]⟩
abbrev tAny : Ty := .mk 1 0 E0 0 nilS
abbrev tCls0 : Ty := .mk 10 0 E0 0 nilS
abbrev clsA (N : Nat) (nm : ByteArray) : Cls := ⟨nm, 1, 0, -1, nilS, ⟨some ⟨N, 0, none⟩, 1, [tAny]⟩, nilS, nilS, nilS, nilS, nilS, nilS, 0⟩
abbrev clsB (N : Nat) : Cls := ⟨⟨#[66]⟩, 2, 0, -1, nilS, ⟨some ⟨N + 1, 0, none⟩, 2, [tAny, tCls0]⟩, nilS, nilS, nilS, nilS, nilS, nilS, 0⟩
abbrev clsC (N : Nat) : Cls := ⟨⟨#[67]⟩, 0, 0, 1, nilS, ⟨some ⟨N + 1 + 1, 0, none⟩, 1, [tAny]⟩, nilS, nilS, nilS, nilS, nilS, nilS, 0⟩
abbrev nmA : ByteArray := ⟨#[65]⟩
/-- The two programs of awake: with the classes in a block, the first one's name. -/
abbrev PA (N g cap : Nat) (nm : ByteArray) : Prg := ⟨⟨some ⟨g, 0, none⟩, cap, [clsA N nm, clsB N, clsC N]⟩, nilS, nilS, nilS, nilS, -1⟩

structure Aw (N : Nat) (W : World) : Prop where
  b0 : W.heap[N]? = some (.cells tAny.cells.toArray 60)
  b1 : W.heap[N + 1]? = some (.cells (tAny.cells ++ tCls0.cells).toArray 60)
  b2 : W.heap[N + 1 + 1]? = some (.cells tAny.cells.toArray 60)
  b3 : W.heap[N + 1 + 1 + 1]? = some (.cells ([clsA N nmA, clsB N, clsC N].flatMap Cls.cells).toArray 54)
  b4 : W.heap[N + 1 + 1 + 1 + 1]? = some (.cells #[(PA N (N + 1 + 1 + 1) 3 nmA).cls.v, .slice none 0 0, .slice none 0 0, .slice none 0 0, .slice none 0 0, I (-1)] 28)

theorem Aw.move {N : Nat} {W W' : World} (h : Aw N W) (hb : ∀ k, k < N + 5 → W'.heap[k]? = W.heap[k]?) : Aw N W' :=
  ⟨(hb _ (by omega)).trans h.b0, (hb _ (by omega)).trans h.b1, (hb _ (by omega)).trans h.b2, (hb _ (by omega)).trans h.b3, (hb _ (by omega)).trans h.b4⟩

theorem nil_at {α : Type} {ok : Nat → Prop} {W : World} {st by_ : Nat} {cells : α → List Value} : SlAt ok W st by_ cells nilS := ⟨Nat.le_refl _, by simp, .inl rfl⟩
theorem wf_small : wf 0 ∧ wf 1 ∧ wf 2 ∧ wf 10 ∧ wf (-1) := by unfold wf; decide
theorem tAny_at {ok : Nat → Prop} {W : World} : TyL ok W tAny := .mk ⟨wf_small.2.1, wf_small.1, by decide, wf_small.1⟩ nil_at (fun c hc => by cases hc)
theorem tCls0_at {ok : Nat → Prop} {W : World} : TyL ok W tCls0 := .mk ⟨wf_small.2.2.2.1, wf_small.1, by decide, wf_small.1⟩ nil_at (fun c hc => by cases hc)
theorem ints_nil {ok : Nat → Prop} {W : World} : IntsL ok W nilS := ⟨nil_at, fun c hc => by cases hc⟩
theorem tres_nil {ok : Nat → Prop} {W : World} : TresL ok W nilS := ⟨nil_at, fun c hc => by cases hc⟩

theorem Aw.prg {N g cap : Nat} {W : World} {nm : ByteArray} {cur : Array Value} (h : Aw N W) {ok : Nat → Prop} (hok : ∀ k, N ≤ k → k ≤ N + 2 → ok k) (hg : ok g) (hn : nm.size ≤ reachBytes) (hc : 3 ≤ cap)
    (hcl : W.heap[g]? = some (.cells cur 54 (0, 0))) (hcur : ∀ j, j < 3 * 13 → cur[j]? = ([clsA N nm, clsB N, clsC N].flatMap Cls.cells)[j]?) : PrgL ok W (PA N g cap nm) := by
  have e1 : TysL ok W ⟨some ⟨N, 0, none⟩, 1, [tAny]⟩ := ⟨slAt_block (l := [tAny]) ty_len h.b0 (fun j hj => by simp) (hok _ (by omega) (by omega)) (Nat.le_refl _) (by simp), fun c hc => by
    obtain rfl : c = tAny := by simpa using hc
    exact tAny_at⟩
  have e2 : TysL ok W ⟨some ⟨N + 1, 0, none⟩, 2, [tAny, tCls0]⟩ := ⟨slAt_block (l := [tAny, tCls0]) ty_len h.b1 (fun j hj => by simp) (hok _ (by omega) (by omega)) (Nat.le_refl _) (by simp), fun c hc => by
    rcases List.mem_cons.1 hc with rfl | hc
    · exact tAny_at
    · obtain rfl : c = tCls0 := by simpa using hc
      exact tCls0_at⟩
  have e3 : TysL ok W ⟨some ⟨N + 1 + 1, 0, none⟩, 1, [tAny]⟩ := ⟨slAt_block (l := [tAny]) ty_len h.b2 (fun j hj => by simp) (hok _ (by omega) (by omega)) (Nat.le_refl _) (by simp), fun c hc => by
    obtain rfl : c = tAny := by simpa using hc
    exact tAny_at⟩
  obtain ⟨w0, w1, w2, w10, wm⟩ := wf_small
  have hi : IntsL ok W nilS ∧ IntsL ok W nilS ∧ IntsL ok W nilS ∧ IntsL ok W nilS ∧ IntsL ok W nilS := ⟨ints_nil, ints_nil, ints_nil, ints_nil, ints_nil⟩
  refine ⟨slAt_block cls_len hcl hcur hg hc (by simp), fun c hc => ?_, nil_at, (fun c hc => by cases hc), nil_at, (fun c hc => by cases hc), nil_at, (fun c hc => by cases hc), nil_at, (fun c hc => by cases hc), wm⟩
  simp only [List.mem_cons, List.not_mem_nil, or_false] at hc
  rcases hc with rfl | rfl | rfl
  · exact ⟨hn, ⟨w1, w0, wm, w0⟩, hi, e1, tres_nil, tres_nil⟩
  · exact ⟨(by decide : (1 : Nat) ≤ reachBytes), ⟨w2, w0, wm, w0⟩, hi, e2, tres_nil, tres_nil⟩
  · exact ⟨(by decide : (1 : Nat) ≤ reachBytes), ⟨w0, w0, w1, w0⟩, hi, e3, tres_nil, tres_nil⟩

theorem Aw.box {N : Nat} {W : World} (h : Aw N W) : W.cell? ⟨N + 1 + 1 + 1 + 1, 0, none⟩ = some (.slice (some ⟨N + 1 + 1 + 1, 0, none⟩) 3 3) ∧ W.cell? ⟨N + 1 + 1 + 1 + 1, 1, none⟩ = some (.slice none 0 0) ∧ W.cell? ⟨N + 1 + 1 + 1 + 1, 2, none⟩ = some (.slice none 0 0) ∧
    W.cell? ⟨N + 1 + 1 + 1 + 1, 3, none⟩ = some (.slice none 0 0) ∧ W.cell? ⟨N + 1 + 1 + 1 + 1, 4, none⟩ = some (.slice none 0 0) ∧ W.cell? ⟨N + 1 + 1 + 1 + 1, 5, none⟩ = some (I (-1)) :=
  ⟨cell_of_row W _ 0 _ _ _ h.b4, cell_of_row W _ 1 _ _ _ h.b4, cell_of_row W _ 2 _ _ _ h.b4, cell_of_row W _ 3 _ _ _ h.b4, cell_of_row W _ 4 _ _ _ h.b4, cell_of_row W _ 5 _ _ _ h.b4⟩
theorem Aw.prg0 {N : Nat} {W : World} (h : Aw N W) : PrgL (fun k => N ≤ k ∧ k ≤ N + 3) W (PA N (N + 1 + 1 + 1) 3 nmA) :=
  h.prg (fun k h1 h2 => ⟨h1, by omega⟩) ⟨by omega, by omega⟩ (by decide) (Nat.le_refl _) h.b3 (fun j hj => by simp)

/-- Where awake's first region ends. -/
def aw1 (w : World) : World :=
  ((((w.alloc (.cells tAny.cells.toArray 60)).alloc (.cells (tAny.cells ++ tCls0.cells).toArray 60)).alloc (.cells tAny.cells.toArray 60)).alloc (.cells ([clsA w.heap.size nmA, clsB w.heap.size, clsC w.heap.size].flatMap Cls.cells).toArray 54)).alloc
    (.cells #[(PA w.heap.size (w.heap.size + 1 + 1 + 1) 3 nmA).cls.v, .slice none 0 0, .slice none 0 0, .slice none 0 0, .slice none 0 0, I (-1)] 28)
theorem aw1_size (w : World) : (aw1 w).heap.size = w.heap.size + 5 := by unfold aw1; simp
theorem aw1_below (w : World) : Below w.heap.size w (aw1 w) :=
  (((((Below.refl _ _).alloc (Nat.le_refl _) _).alloc (by simp) _).alloc (by simp; omega) _).alloc (by simp; omega) _).alloc (by simp; omega) _
theorem aw1_aw (w : World) : Aw w.heap.size (aw1 w) := by
  unfold aw1
  generalize h0 : w.alloc (.cells tAny.cells.toArray 60) = w0
  have z0 : w0.heap.size = w.heap.size + 1 := by rw [← h0]; simp
  have a0 : w0.heap[w.heap.size]? = some (.cells tAny.cells.toArray 60) := by rw [← h0]; exact heap_alloc_new w _
  generalize h1 : w0.alloc (.cells (tAny.cells ++ tCls0.cells).toArray 60) = w1
  have z1 : w1.heap.size = w.heap.size + 1 + 1 := by rw [← h1]; simp [z0]
  have a1 : w1.heap[w.heap.size + 1]? = some (.cells (tAny.cells ++ tCls0.cells).toArray 60) := by rw [← h1, ← z0]; exact heap_alloc_new w0 _
  generalize h2 : w1.alloc (.cells tAny.cells.toArray 60) = w2
  have z2 : w2.heap.size = w.heap.size + 1 + 1 + 1 := by rw [← h2]; simp [z1]
  have a2 : w2.heap[w.heap.size + 1 + 1]? = some (.cells tAny.cells.toArray 60) := by rw [← h2, ← z1]; exact heap_alloc_new w1 _
  generalize h3 : w2.alloc (.cells ([clsA w.heap.size nmA, clsB w.heap.size, clsC w.heap.size].flatMap Cls.cells).toArray 54) = w3
  have z3 : w3.heap.size = w.heap.size + 1 + 1 + 1 + 1 := by rw [← h3]; simp [z2]
  have a3 : w3.heap[w.heap.size + 1 + 1 + 1]? = some (.cells ([clsA w.heap.size nmA, clsB w.heap.size, clsC w.heap.size].flatMap Cls.cells).toArray 54) := by rw [← h3, ← z2]; exact heap_alloc_new w2 _
  have q1 : ∀ k, k < w.heap.size + 1 → w1.heap[k]? = w0.heap[k]? := fun k hk => by rw [← h1]; exact Below.heap_alloc _ _ _ (by omega)
  have q2 : ∀ k, k < w.heap.size + 2 → w2.heap[k]? = w1.heap[k]? := fun k hk => by rw [← h2]; exact Below.heap_alloc _ _ _ (by omega)
  have q3 : ∀ k, k < w.heap.size + 3 → w3.heap[k]? = w2.heap[k]? := fun k hk => by rw [← h3]; exact Below.heap_alloc _ _ _ (by omega)
  refine ⟨?_, ?_, ?_, ?_, ?_⟩
  · rw [Below.heap_alloc _ _ _ (by omega), q3 _ (by omega), q2 _ (by omega), q1 _ (by omega)]; exact a0
  · rw [Below.heap_alloc _ _ _ (by omega), q3 _ (by omega), q2 _ (by omega)]; exact a1
  · rw [Below.heap_alloc _ _ _ (by omega), q3 _ (by omega)]; exact a2
  · rw [Below.heap_alloc _ _ _ (by omega)]; exact a3
  · rw [← z3]; exact heap_alloc_new w3 _

theorem eq33 (w : World) : (binOp .eql 33 (.agg #[I 0, I 0, I 0]) (.agg #[I 0, I 0, I 0])).run Tryz.prog w = .ok (.bool true) w := by kernel_rfl
theorem field33 (a b c : Int) (w : World) : (Instr.field 33 (.agg #[I a, I b, I c]) 2).run Tryz.prog w = .ok (I c) w := rfl
theorem cellsA (N : Nat) (nm : ByteArray) : ∃ T, ∀ nm', [clsA N nm', clsB N, clsC N].flatMap Cls.cells = .string nm' :: T := ⟨([clsA N nm, clsB N, clsC N].flatMap Cls.cells).tail, fun _ => rfl⟩
theorem cur_set {N : Nat} {cur : Array Value} (h : ∀ j, j < 3 * 13 → cur[j]? = ([clsA N nmA, clsB N, clsC N].flatMap Cls.cells)[j]?) :
    ∀ j, j < 3 * 13 → (cur.setIfInBounds 0 (.string E0))[j]? = ([clsA N E0, clsB N, clsC N].flatMap Cls.cells)[j]? := by
  obtain ⟨T, hT⟩ := cellsA N nmA
  intro j hj
  have h0 := h 0 (by omega)
  have h1 := h j hj
  rw [hT] at h0 h1 ⊢
  have hs : 0 < cur.size := (Array.getElem?_eq_some_iff.1 h0).1
  cases j with
  | zero => simp [Array.getElem?_setIfInBounds, hs]
  | succ j => rw [Array.getElem?_setIfInBounds, if_neg (by omega), h1]; rfl
def BofA (w : World) (v : Value) (e : Ending) (w' : World) : Prop := e = .returned v ∧ Below w.heap.size w w'
set_option maxHeartbeats 1600000 in
/-- awake answers true, if FullName, Check and Ancestors are right on its two programs. -/
theorem awake_law (G : World → Prop) (hG : ∀ w w', G w → Below w.heap.size w w' → G w')
    (hF : ∀ (N : Nat) (W : World), G W → N + 5 ≤ W.heap.size → PrgL (fun k => N ≤ k ∧ k ≤ N + 3) W (PA N (N + 1 + 1 + 1) 3 nmA) → Calls Tryz.prog 21 #[(PA N (N + 1 + 1 + 1) 3 nmA).agg, I 2] W (BofA W (.tuple #[.string ⟨#[66, 35, 46, 67]⟩, I 0])))
    (hC : ∀ (N : Nat) (W : World), G W → N + 5 ≤ W.heap.size → PrgL (fun k => N ≤ k ∧ k ≤ N + 3) W (PA N (N + 1 + 1 + 1) 3 nmA) → Calls Tryz.prog 9 #[(PA N (N + 1 + 1 + 1) 3 nmA).agg] W (BofA W (.agg #[I 0, I 0, I 0])))
    (hC1 : ∀ (N g cap : Nat) (W : World), G W → N + 5 ≤ W.heap.size → g < W.heap.size → PrgL (fun k => (N ≤ k ∧ k ≤ N + 3) ∨ k = g) W (PA N g cap E0) → Calls Tryz.prog 9 #[(PA N g cap E0).agg] W fun e w' => ∃ a b c, c ≠ 0 ∧ BofA W (.agg #[I a, I b, I c]) e w')
    (hA : ∀ (N : Nat) (W : World), G W → N + 5 ≤ W.heap.size → PrgL (fun k => N ≤ k ∧ k ≤ N + 3) W (PA N (N + 1 + 1 + 1) 3 nmA) → Calls Tryz.prog 17 #[(PA N (N + 1 + 1 + 1) 3 nmA).agg, I 1] W fun e w' => ∃ s : Sl Int, s.l = [0] ∧ (∃ ok, IntsL ok w' s) ∧ BofA W s.v e w')
    (w : World) (hw : G w) : Calls Tryz.prog 8 #[] w fun e w' => e = .returned (.bool true) ∧ Below w.heap.size w w' := by
  have HG := Lib.hid hG
  have HF := Lib.hid hF
  have HC := Lib.hid hC
  have HC1 := Lib.hid hC1
  have HA := Lib.hid hA
  have HAw := Lib.hid (aw1_aw w)
  have HB1 := Lib.hid (aw1_below w)
  have HZ := Lib.hid (aw1_size w)
  have HG1 := Lib.hid (hG _ _ hw (aw1_below w))
  clear hG hF hC hC1 hA hw
  go_enter Tryz.func8, Tryz.ntmps8
  go_upto_region 2 with fail
  change Code.wp _ _ _ _ (aw1 w)
  generalize aw1 w = W1 at *
  have hz := HZ.out
  obtain ⟨c0, c1, c2, c3, c4, c5⟩ := HAw.out.box
  unfold BofA at *
  go_upto_region 6 with (first
    | (go_at_call 21; refine (HF.out _ W1 HG1.out (by omega) HAw.out.prg0).mono ?_; rintro e wF ⟨rfl, hbF⟩; have HBF := Lib.hid hbF; have HAF := Lib.hid (HAw.out.move fun k hk => hbF.block k (by omega)); clear hbF; obtain ⟨f0, f1, f2, f3, f4, f5⟩ := HAF.out.box; have hltF := (cell_spot f0).2; dsimp only at hltF))
  refine (clone40_any (PA w.heap.size (w.heap.size + 1 + 1 + 1) 3 nmA).cls _ ((HAF.out.move fun k hk => Below.heap_alloc _ _ _ (by omega)).prg0.cls) (by show 0 < 3; omega) (by show 3 ≤ 500; omega)).mono ?_
  rintro e w2 ⟨g, cap', cur, rfl, hge, hcap, hh, hcur, hb2⟩
  have hge' : wF.heap.size + 1 ≤ g := by simpa using hge
  have hgne : g ≠ wF.heap.size := by omega
  have hgne' : wF.heap.size ≠ g := by omega
  have m0 : w2.cell? ⟨wF.heap.size, 0, none⟩ = some (.slice (some ⟨w.heap.size + 1 + 1 + 1, 0, none⟩) 3 3) := (hb2.cell (by simp)).trans (by rw [World.cell?_alloc_new]; rfl)
  have mfr : w2.frozen? ⟨wF.heap.size, 0, none⟩ = false := (hb2.frozen (by simp)).trans (by
    have hn := heap_alloc_new wF (.cells #[.slice (some ⟨w.heap.size + 1 + 1 + 1, 0, none⟩) 3 3, .slice none 0 0, .slice none 0 0, .slice none 0 0, .slice none 0 0, I (-1)] 28)
    unfold World.frozen?
    dsimp only
    rw [hn]
    rfl)
  have g0 : w2.cell? ⟨g, 0, none⟩ = some (.string nmA) := by rw [cell_of_row w2 g 0 _ _ _ hh, hcur 0 (by show 0 < 3 * 13; omega)]; rfl
  have gfr : w2.frozen? ⟨g, 0, none⟩ = false := by simp [World.frozen?, hh]
  go_upto_region 6 with fail
  have hgs : g < w2.heap.size := (cell_spot g0).2
  have hMs : wF.heap.size < w2.heap.size := (cell_spot m0).2
  have hFsz : w.heap.size + 5 ≤ wF.heap.size := by have := HBF.out.size; omega
  have hB2 : Below (w.heap.size + 5) W1 w2 := (HBF.out.mono (by omega)).trans (((Below.refl (w.heap.size + 5) wF).alloc hFsz _).trans (hb2.mono (by simp; omega)))
  have hB4 : Below (w.heap.size + 5) W1 ((w2.setCell ⟨wF.heap.size, 0, none⟩ (.slice (some ⟨g, 0, none⟩) 3 cap')).setCell ⟨g, 0, none⟩ (.string E0)) := (hB2.setCell hFsz _).setCell (by show _ ≤ g; omega) _
  have hg4 : ((w2.setCell ⟨wF.heap.size, 0, none⟩ (.slice (some ⟨g, 0, none⟩) 3 cap')).setCell ⟨g, 0, none⟩ (.string E0)).heap[g]? = some (.cells (cur.setIfInBounds 0 (.string E0)) 54 (0, 0)) := by
    simp [World.setCell, Array.getElem?_modify, hh, hgne']
  have hMc : ∀ j, w2.cell? ⟨wF.heap.size, j, none⟩ = #[.slice (some ⟨w.heap.size + 1 + 1 + 1, 0, none⟩) 3 3, .slice none 0 0, .slice none 0 0, .slice none 0 0, .slice none 0 0, I (-1)][j]? := fun j => (hb2.cell (by simp)).trans (World.cell?_alloc_new wF _ 28 j)
  have hM4 : ∀ j, ((w2.setCell ⟨wF.heap.size, 0, none⟩ (.slice (some ⟨g, 0, none⟩) 3 cap')).setCell ⟨g, 0, none⟩ (.string E0)).cell? ⟨wF.heap.size, j, none⟩ = #[.slice (some ⟨g, 0, none⟩) 3 cap', .slice none 0 0, .slice none 0 0, .slice none 0 0, .slice none 0 0, I (-1)][j]? := fun j => by
    rw [World.cell?_setCell_other _ _ _ _ (fun e => by have := congrArg Addr.block e; dsimp only at this; omega)]
    cases j with
    | zero => rw [World.cell?_setCell_same _ _ _ (by rw [m0])]; rfl
    | succ j => rw [World.cell?_setCell_other _ _ _ _ (fun e => by have := congrArg Addr.off e; dsimp only at this; omega), hMc]; rfl
  have hz4 : ((w2.setCell ⟨wF.heap.size, 0, none⟩ (.slice (some ⟨g, 0, none⟩) 3 cap')).setCell ⟨g, 0, none⟩ (.string E0)).heap.size = w2.heap.size := by simp [World.setCell]
  change Code.wp _ _ _ _ ((w2.setCell ⟨wF.heap.size, 0, none⟩ (.slice (some ⟨g, 0, none⟩) 3 cap')).setCell ⟨g, 0, none⟩ (.string E0))
  generalize (w2.setCell ⟨wF.heap.size, 0, none⟩ (.slice (some ⟨g, 0, none⟩) 3 cap')).setCell ⟨g, 0, none⟩ (.string E0) = w4 at *
  have hcap3 : 3 ≤ cap' := hcap
  have HCUR := Lib.hid (cur_set hcur)
  have HB4 := Lib.hid hB4
  have HG4 := Lib.hid hg4
  have HM4 := Lib.hid hM4
  generalize wF.heap.size = M at *
  clear hB2 hB4 hg4 hMc hM4 hcur hh hb2 HBF HAF f0 f1 f2 f3 f4 f5 m0 mfr g0 gfr hge hcap
  have HGw4 := Lib.hid (HG.out W1 w4 HG1.out (HB4.out.mono (by omega)))
  have HA4 := Lib.hid (HAw.out.move fun k hk => HB4.out.block k hk)
  obtain ⟨f0, f1, f2, f3, f4, f5⟩ := HA4.out.box
  have he33 := eq33
  have hf33 := field33
  go_wp2_with fail
  refine (HC.out _ w4 HGw4.out (by omega) HA4.out.prg0).mono ?_
  rintro e w5 ⟨rfl, hb5⟩
  have HB5 := Lib.hid hb5
  clear hb5
  have hM5 : ∀ j, w5.cell? ⟨M, j, none⟩ = #[.slice (some ⟨g, 0, none⟩) 3 cap', .slice none 0 0, .slice none 0 0, .slice none 0 0, .slice none 0 0, I (-1)][j]? := fun j => (HB5.out.cell (by show M < _; omega)).trans (HM4.out j)
  have x0 := hM5 0
  have x1 := hM5 1
  have x2 := hM5 2
  have x3 := hM5 3
  have x4 := hM5 4
  have x5 := hM5 5
  clear hM5
  simp at x0 x1 x2 x3 x4 x5
  have HG5 := Lib.hid (HG.out _ _ HGw4.out HB5.out)
  have HA5 := Lib.hid (HA4.out.move fun k hk => HB5.out.block k (by omega))
  have hs5 : w4.heap.size ≤ w5.heap.size := HB5.out.size
  go_wp2_with fail
  refine (HC1.out w.heap.size g cap' w5 HG5.out (by omega) (by omega) (HA5.out.prg (fun k h1 h2 => .inl ⟨h1, by omega⟩) (.inr rfl) (by decide) hcap3 ((HB5.out.block g (by omega)).trans HG4.out) HCUR.out)).mono ?_
  rintro e w6 ⟨a, b, c, hc, rfl, hb6⟩
  have HB6 := Lib.hid hb6
  clear hb6
  have HG6 := Lib.hid (HG.out _ _ HG5.out HB6.out)
  have HA6 := Lib.hid (HA5.out.move fun k hk => HB6.out.block k (by omega))
  have hs6 : w5.heap.size ≤ w6.heap.size := HB6.out.size
  have hc0 : (c == 0) = false := by simpa using hc
  obtain ⟨y0, y1, y2, y3, y4, y5⟩ := HA6.out.box
  go_wp2_with fail
  refine (HA.out _ w6 HG6.out (by omega) HA6.out.prg0).mono ?_
  rintro e w7 ⟨s, hsl, ⟨okS, hsI⟩, rfl, hb7⟩
  have HB7 := Lib.hid hb7
  have HSL := Lib.hid hsl
  have hB : Below w.heap.size w w7 := HB1.out.trans ((HB4.out.mono (by omega)).trans ((HB5.out.mono (by omega)).trans ((HB6.out.mono (by omega)).trans (hb7.mono (by omega)))))
  have HBB := Lib.hid hB
  have hI1 : IntsL (fun _ => True) (w7.alloc (.cells #[I 0] 3)) ⟨some ⟨w7.heap.size, 0, none⟩, 1, [0]⟩ := by
    refine ⟨slAt_block (cells := fun i => [I i]) (l := [0]) (fun _ => rfl) (heap_alloc_new _ _) (fun j hj => ?_) trivial (Nat.le_refl _) (by simp), fun i hi => ?_⟩
    · have : j = 0 := by simpa using hj
      subst this
      rfl
    · obtain rfl : i = 0 := by simpa using hi
      exact wf_small.1
  have hI2 : IntsL (fun _ => True) (w7.alloc (.cells #[I 0] 3)) s := by
    refine ⟨⟨hsI.1.1, hsI.1.2.1, ?_⟩, hsI.2⟩
    rcases hsI.1.2.2 with h | ⟨bb, o, h1, _, h3⟩
    · exact .inl h
    · refine .inr ⟨bb, o, h1, trivial, fun i hi => ?_⟩
      have h4 := h3 i hi
      exact h4.same (Below.heap_alloc _ _ _ (cell_spot (h4 0 (by simp))).2)
  have HEQ := Lib.hid (eq22_any (ok := fun _ => True) s ⟨some ⟨w7.heap.size, 0, none⟩, 1, [0]⟩ (w7.alloc (.cells #[I 0] 3)) (by exact hI2) hI1)
  clear hb7 hB hsI hI1 hI2
  have hv : s.v = .slice s.a 1 s.cap := by unfold Sl.v; rw [HSL.out]; rfl
  have HQ : Calls Tryz.prog 14 #[.slice s.a 1 s.cap, .slice (some ⟨w7.heap.size, 0, none⟩) 1 1] (w7.alloc (.cells #[I 0] 3)) fun e w' => e = .returned (.bool true) ∧ Below w7.heap.size w7 w' := by
    have h := HEQ.out
    rw [hv] at h
    refine h.mono ?_
    rintro e w' ⟨he, n, rfl⟩
    refine ⟨?_, ?_⟩
    · rw [he, HSL.out]; rfl
    · exact below_drewN ((Below.refl _ w7).alloc (Nat.le_refl _) _) n
  rw [hv]
  have hs7 : w.heap.size ≤ w7.heap.size := HBB.out.size
  go_wp2_with fail
  refine HQ.mono ?_
  rintro e w8 ⟨rfl, hb8⟩
  have HB8 := Lib.hid hb8
  clear hb8 HQ HEQ
  go_wp2_with fail
  go_ret
  refine ⟨?_, HBB.out.trans (HB8.out.mono hs7)⟩
  first | rfl | (show Ending.returned (.bool (c != 0)) = _; simp [bne, hc0])
end Go.Proofs.YtfbaikijnjafbaaGreatDoor
