/- The contract of Trees: it ends, with yes or no; it turns nothing but the number that it counts down. -/
import Derived.Test.YtfbaikijnjafbaaGreatDoorTs
import Derived.Deep.RegionHeld3
import Derived.Deep.AppendLies
import Derived.Deep.QuietTactic
import Derived.BigQuiet
namespace Go.Proofs.YtfbaikijnjafbaaGreatDoor
set_option linter.unusedSimpArgs false
set_option linter.unusedVariables false
open Go.RowKit
set_option maxRecDepth 100000

theorem flat_at {α : Type} {cells : α → List Value} {st : Nat} (hst : ∀ x, (cells x).length = st) : ∀ (l : List α) (i : Nat) (h : i < l.length) (r : Nat) (_ : r < st), (l.flatMap cells)[i * st + r]? = (cells l[i])[r]?
  | [], i, h, _, _ => absurd h (by simp)
  | a :: l, 0, _, r, hr => by
    simp only [List.flatMap_cons, Nat.zero_mul, Nat.zero_add, List.getElem_cons_zero]
    rw [List.getElem?_append_left (by rw [hst]; exact hr)]
  | a :: l, i + 1, h, r, hr => by
    have ih := flat_at hst l i (by simpa using h) r hr
    simp only [List.flatMap_cons, List.getElem_cons_succ]
    rw [List.getElem?_append_right (by rw [hst, Nat.add_mul]; omega), hst, ← ih]
    congr 1
    rw [Nat.add_mul]; omega
theorem flat_len {α : Type} {cells : α → List Value} {st : Nat} (hst : ∀ x, (cells x).length = st) : ∀ (l : List α), (l.flatMap cells).length = l.length * st
  | [] => by simp
  | a :: l => by simp only [List.flatMap_cons, List.length_append, flat_len hst l, hst, List.length_cons, Nat.add_mul]; omega
theorem flat_some {α : Type} {cells : α → List Value} {st : Nat} (hst : ∀ x, (cells x).length = st) (h0 : 0 < st) {l : List α} {j : Nat} {u : Value} (h : (l.flatMap cells)[j]? = some u) :
    ∃ i, ∃ (hi : i < l.length), j = i * st + j % st ∧ (cells l[i])[j % st]? = some u := by
  have hj : j < l.length * st := by rw [← flat_len hst]; exact (List.getElem?_eq_some_iff.1 h).1
  have hi : j / st < l.length := Nat.div_lt_of_lt_mul (by rw [Nat.mul_comm]; exact hj)
  have e : j = j / st * st + j % st := by rw [Nat.mul_comm]; exact (Nat.div_add_mod j st).symm
  refine ⟨j / st, hi, e, ?_⟩
  rw [← flat_at hst l (j / st) hi (j % st) (Nat.mod_lt _ h0), ← e]
  exact h
theorem ty_len (T : Ty) : T.cells.length = 5 := rfl
theorem ty_one {T : Ty} {u : Value} (h : u ∈ T.cells) : u.oneCell' = true := by
  simp only [Ty.cells, List.mem_cons, List.not_mem_nil, or_false] at h
  rcases h with rfl | rfl | rfl | rfl | rfl <;> rfl

def App (ats : Array TypeId) (ty : TypeId) (args : Array Value) : Sem Value := Builtin.append_ ats ty args
theorem builtin_app (ats : Array TypeId) (ty : TypeId) (cs : Array Bool) (args : Array Value) : builtin .append ats ty cs args = (do pure (.value (← App ats ty args))) := rfl
theorem info61 : (Tryz.prog.info? 60).map (fun i => (i.zero, i.size, i.bytes)) = some (some (.agg #[.int .i64 0, .int .i64 0, .string ByteArray.empty, .int .i64 0, .slice none 0 0]), 5, 64) := by kernel_rfl
theorem app_none (N c : Nat) (w : World) : (App #[51, 51] 51 #[.slice (some ⟨N, 0, none⟩) 1 1, .slice none 0 c]).run Tryz.prog w = .ok (.slice (some ⟨N, 0, none⟩) 1 1) w := by kernel_rfl

/-- Types appended to a slice of one type in a new block. -/
theorem app_tys (g N : Nat) (w : World) (ty : Ty) (tys : Sl Ty) (hN : w.heap[N]? = some (.cells ty.cells.toArray 60 (0, 0))) (hNg : N ≠ g) (hg0 : g < w.heap.size) (ht : TysL (okg g w) w tys) (hb : tys.l.length * 64 ≤ reachBytes) :
    ∃ (s' : Sl Ty) (w1 : World), (App #[51, 51] 51 #[.slice (some ⟨N, 0, none⟩) 1 1, tys.v]).run Tryz.prog w = .ok s'.v w1 ∧ s'.l = ty :: tys.l ∧ SlAt (okg g w1) w1 5 64 Ty.cells s' ∧ w.grownBy w1 (some N) := by
  obtain ⟨a, cap, l⟩ := tys
  have hNlt : N < w.heap.size := (Array.getElem?_eq_some_iff.1 hN).1
  have hcell : ∀ j, w.cell? ⟨N, j, none⟩ = ty.cells[j]? := fun j => by rw [cell_of_row w N j _ _ _ hN]; simp
  dsimp only at hb
  unfold reachBytes at hb
  cases a with
  | none =>
    have hl : l = [] := by
      rcases ht.1.2.2 with h | ⟨b, o, h, _⟩
      · exact h
      · cases h
    subst hl
    refine ⟨⟨some ⟨N, 0, none⟩, 1, [ty]⟩, w, app_none N cap w, rfl, ⟨by simp, by simp, .inr ⟨N, 0, rfl, ⟨hNlt, hNg⟩, fun i hi => ?_⟩⟩, ⟨rfl, rfl, rfl, Nat.le_refl _, fun _ _ _ => rfl⟩⟩
    obtain rfl : i = 0 := by simpa using hi
    intro j _
    simpa using hcell j
  | some ad =>
    obtain ⟨i0, hi0, hz0, hz1, hz2⟩ := info_parts info61
    have hnews : ∀ j u, (l.flatMap Ty.cells)[j]? = some u → w.cell? (ad.add j) = some u := fun j u hj => by
      obtain ⟨i, hi, e, hu⟩ := flat_some ty_len (by omega) hj
      rcases ht.1.2.2 with h | ⟨b, o, h, hok, hc⟩
      · dsimp only at h; subst h; simp at hi
      · obtain rfl : ad = ⟨b, o, none⟩ := Option.some.inj h
        have := hc i hi (j % 5) (by rw [ty_len]; omega)
        rw [WideShapes.add_plain, e, ← Nat.add_assoc, this]
        exact hu
    have hone : ∀ u ∈ l.flatMap Ty.cells, u.oneCell' = true := fun u hu => by
      obtain ⟨T, _, hT⟩ := List.mem_flatMap.1 hu
      exact ty_one hT
    obtain ⟨v', w', hr, ho, hg, hnil, hblk⟩ := run_append_own_at (P := Tryz.prog) (w := w) 0 51 51 60 i0 _ 5 64 Tryz.underlying51 hi0 hz0 hz1 hz2 rfl (by omega) (Value.slice (some ⟨N, 0, none⟩) 1 1) 1 ty.cells
      ⟨rfl, .inr ⟨N, 1, ty.cells.toArray, rfl, Nat.zero_le _, hN, by omega, by unfold maxLen; omega, rfl, by simp [Ty.cells]⟩⟩
      ad l.length cap (l.flatMap Ty.cells) (flat_len ty_len l) hnews hone (by unfold maxLen; omega) (by omega) (Nat.zero_le _)
    rcases ho.2 with ⟨_, h⟩ | ⟨g', cap', cur, rfl, _, hh, hcap, _, _, htk⟩
    · omega
    · have hgg : g' = N ∨ g' = w.heap.size := by
        rcases hblk with h | h
        · left; simpa [Value.ownBlock] using h
        · right; simpa [Value.ownBlock] using h
      have hsz : w'.heap.size > g' := (Array.getElem?_eq_some_iff.1 hh).1
      refine ⟨⟨some ⟨g', 0, none⟩, cap', ty :: l⟩, w', ?_, rfl, ⟨?_, ?_, .inr ⟨g', 0, rfl, ⟨hsz, ?_⟩, fun i hi => ?_⟩⟩, hg⟩
      · show _ = Result.ok (Value.slice (some ⟨g', 0, none⟩) (l.length + 1) cap') w'
        rw [Nat.add_comm]; exact hr
      · show l.length + 1 ≤ cap'; omega
      · show (l.length + 1) * 64 ≤ _; omega
      · rcases hgg with rfl | rfl
        · exact hNg
        · omega
      · intro j hj
        have hj5 : j < 5 := hj
        rw [cell_of_row w' g' _ _ _ _ hh, ← flat_at ty_len (ty :: l) i hi j hj5, Nat.zero_add]
        have hlt : i * 5 + j < (1 + l.length) * 5 := by have : i < l.length + 1 := hi; omega
        rw [show (ty :: l).flatMap Ty.cells = ty.cells ++ l.flatMap Ty.cells from rfl, ← htk, List.getElem?_take_of_lt hlt]
        simp

theorem TreL.tyL {ok : Nat → Prop} {w : World} {T : Tre} (h : TreL ok w T) : TyL ok w T.ty := by cases h with | mk _ hy => exact hy
theorem TreL.tysL {ok : Nat → Prop} {w : World} {T : Tre} (h : TreL ok w T) : TysL ok w T.tys ∧ T.tys.l.length * 64 ≤ reachBytes := by cases h with | mk hf _ ht hu => exact ⟨⟨ht, hu⟩, hf.2.2.2.2.2⟩
theorem TreL.kidsL {ok : Nat → Prop} {w : World} {T : Tre} (h : TreL ok w T) : TresL ok w T.kids := by cases h with | mk _ _ _ _ ha hk => exact ⟨ha, hk⟩


theorem step_app {ops : Array Oper} {o : Oper} {a : Act} {w w1 : World} {K : Act → World → Prop} {Q : Exit → Act → World → Prop} {E : Prop} (hgd : Region.wanted o (yielded ops a.tmps) = true) (s x : Operand) (t ty : TypeId)
    (ho : o.op = .call { callee := .builtin .append, args := #[s, x], argTypes := #[t, t] }) (v : Value) (hr : (App #[t, t] ty #[a.eval s, a.eval x]).run Tryz.prog w = .ok v w1) (h : K (a.put o.dst v) w1) :
    if Region.wanted o (yielded ops a.tmps) = true then Oper.wp Tryz.prog o a w K Q else E := by
  rw [if_pos hgd]
  have hr' : (Builtin.append_ #[t, t] o.type #[a.eval s, a.eval x]).run Tryz.prog w = .ok v w1 := hr
  unfold Oper.wp
  simp [execOp, ho, resolve, invoke, builtin, hr', Result.andThen]
  exact h

/-- What Trees$1 reads of its own blocks: the closure's two, and the tree's. -/
def SP (M g n1 n0 : Nat) (deep : Nat) (T : Tre) (w' : World) : Prop :=
  w'.cell? ⟨n1, 0, none⟩ = some (.pointer (some ⟨g, 0, none⟩)) ∧ w'.cell? ⟨n0, 0, none⟩ = some (I deep) ∧ w'.cell? ⟨M, 3, none⟩ = some (.string T.tx) ∧ w'.cell? ⟨M, 4, none⟩ = some (I T.ty.k) ∧ w'.cell? ⟨M, 5, none⟩ = some (I T.ty.s) ∧
  w'.cell? ⟨M, 6, none⟩ = some (.string T.ty.nm) ∧ w'.cell? ⟨M, 7, none⟩ = some (I T.ty.n) ∧ w'.cell? ⟨M, 8, none⟩ = some T.ty.args.v ∧ w'.cell? ⟨M, 9, none⟩ = some T.tys.v ∧ w'.cell? ⟨M, 10, none⟩ = some T.kids.v
theorem SP.move {M g n1 n0 deep : Nat} {T : Tre} {a b : World} (h : SP M g n1 n0 deep T a) (h1 : b.heap[n1]? = a.heap[n1]?) (h0 : b.heap[n0]? = a.heap[n0]?) (hM : b.heap[M]? = a.heap[M]?) : SP M g n1 n0 deep T b := by
  have e1 : ∀ j, b.cell? ⟨n1, j, none⟩ = a.cell? ⟨n1, j, none⟩ := fun j => World.cell?_of_block (w := a) h1
  have e0 : ∀ j, b.cell? ⟨n0, j, none⟩ = a.cell? ⟨n0, j, none⟩ := fun j => World.cell?_of_block (w := a) h0
  have eM : ∀ j, b.cell? ⟨M, j, none⟩ = a.cell? ⟨M, j, none⟩ := fun j => World.cell?_of_block (w := a) hM
  unfold SP at *
  simp only [e1, e0, eM]
  exact h
theorem SP.kp {M g n1 n0 deep : Nat} {T : Tre} {a b : World} {m : Int} (h : SP M g n1 n0 deep T a) (h1 : n1 ≠ g) (h0 : n0 ≠ g) (hM : M ≠ g) (k : Kp g a b m) : SP M g n1 n0 deep T b :=
  h.move (k.block _ (cell_spot h.1).2 h1) (k.block _ (cell_spot h.2.1).2 h0) (k.block _ (cell_spot h.2.2.1).2 hM)

def cbTre (rec : List Tre → Int → Bool × Int) (T : Tre) (n : Int) : Bool × Int :=
  if wrap64 (n - 1) < 0 ∨ 200 < T.tx.size then (true, wrap64 (n - 1))
  else if (tysM 70 (T.ty :: T.tys.l) (wrap64 (n - 1))).1 = false then (true, (tysM 70 (T.ty :: T.tys.l) (wrap64 (n - 1))).2)
  else (!(rec T.kids.l (tysM 70 (T.ty :: T.tys.l) (wrap64 (n - 1))).2).1, (rec T.kids.l (tysM 70 (T.ty :: T.tys.l) (wrap64 (n - 1))).2).2)
def tresM : Nat → List Tre → Int → Bool × Int
  | 0, _, n => (false, n)
  | f + 1, l, n => (!(anyM (cbTre (tresM f)) l n).1, (anyM (cbTre (tresM f)) l n).2)

set_option maxHeartbeats 1000000 in
/-- What Trees$1 answers for one tree, if Trees ends one level deeper. -/
theorem cb61_any (g : Nat) (T : Tre) (n1 n0 : Nat) (deep : Nat) (w : World) (n : Int) (rec : List Tre → Int → Bool × Int) (h1 : w.cell? ⟨n1, 0, none⟩ = some (.pointer (some ⟨g, 0, none⟩))) (h0 : w.cell? ⟨n0, 0, none⟩ = some (I deep)) (hn1 : n1 ≠ g) (hn0 : n0 ≠ g) (hd : deep ≤ 200)
    (hT : TreL (okg g w) w T) (hc : w.cell? ⟨g, 0, none⟩ = some (I n)) (hf : w.frozen? ⟨g, 0, none⟩ = false)
    (ih : ∀ (w2 : World) (s : Sl Tre) (m : Int), TresL (okg g w2) w2 s → w2.cell? ⟨g, 0, none⟩ = some (I m) → w2.frozen? ⟨g, 0, none⟩ = false →
      Calls Tryz.prog 26 #[s.v, I ((deep : Int) + 1), .pointer (some ⟨g, 0, none⟩)] w2 (Ans g w2 (rec s.l m))) :
    Calls Tryz.prog 57 #[.agg T.cells.toArray, .pointer (some ⟨n1, 0, none⟩), .pointer (some ⟨n0, 0, none⟩)] w (Ans g w (cbTre rec T n)) := by
  have HK := Lib.hid (Kp.refl hc hf)
  have HT := Lib.hid hT
  have IH := Lib.hid ih
  clear hT ih
  have hlt0 := (cell_spot h0).2
  have hlt1 := (cell_spot h1).2
  have hltg := (cell_spot hc).2
  dsimp only at hlt0 hlt1 hltg
  generalize hres : cbTre rec T n = res
  have HR := Lib.hid hres
  clear hres
  have HA := Lib.hid ((HK.out.set (wrap64 (n - 1))).alloc (.cells T.cells.toArray 66))
  by_cases c1 : wrap64 (n - 1) < 0
  · obtain rfl : (true, wrap64 (n - 1)) = res := by have := HR.out; rw [cbTre, if_pos (.inl c1)] at this; exact this
    have d1 : decide (wrap64 (n - 1) < 0) = true := decide_eq_true c1
    clear c1 HR
    unfold Tre.cells
    go_enter Tryz.func57, Tryz.ntmps57
    go_wp2_with fail
    go_quiet (fail)
    go_wp2_with fail
    go_ret
    exact Ans.mk (HA.out.drewN _)
  · have d1 : decide (wrap64 (n - 1) < 0) = false := decide_eq_false c1
    by_cases c2 : 200 < T.tx.size
    · obtain rfl : (true, wrap64 (n - 1)) = res := by have := HR.out; rw [cbTre, if_pos (.inr c2)] at this; exact this
      have d2 : decide ((200 : Int) < (T.tx.size : Int)) = true := decide_eq_true (by omega)
      clear c1 c2 HR
      unfold Tre.cells
      go_enter Tryz.func57, Tryz.ntmps57
      go_wp2_with fail
      go_quiet (fail)
      go_wp2_with fail
      go_ret
      exact Ans.mk (HA.out.drewN _)
    · have HR2 := Lib.hid (show (if (tysM 70 (T.ty :: T.tys.l) (wrap64 (n - 1))).1 = false then (true, (tysM 70 (T.ty :: T.tys.l) (wrap64 (n - 1))).2)
          else (!(rec T.kids.l (tysM 70 (T.ty :: T.tys.l) (wrap64 (n - 1))).2).1, (rec T.kids.l (tysM 70 (T.ty :: T.tys.l) (wrap64 (n - 1))).2).2)) = res by have := HR.out; rw [cbTre, if_neg (fun h => h.elim c1 c2)] at this; exact this)
      have d2 : decide ((200 : Int) < (T.tx.size : Int)) = false := decide_eq_false (by omega)
      clear c1 c2 HR
      have hsz : (((w.setCell ⟨g, 0, none⟩ (I (wrap64 (n - 1)))).alloc (.cells T.cells.toArray 66)).heap.size) = w.heap.size + 1 := by simp
      have HB := Lib.hid ((HA.out.alloc (.cells T.ty.cells.toArray 60)).drewN 1)
      obtain ⟨s', w1, hra, hl', hs', hgr⟩ := app_tys g (w.heap.size + 1) ((((w.setCell ⟨g, 0, none⟩ (I (wrap64 (n - 1)))).alloc (.cells T.cells.toArray 66)).alloc (.cells T.ty.cells.toArray 60)).drew) T.ty T.tys
        (by rw [← hsz]; exact heap_alloc_new _ _) (by omega) (by have := HB.out.lt; exact this) ((HT.out.tysL.1.kp HB.out)) HT.out.tysL.2
      have hM : w.heap.size ≠ g := by omega
      have hSa : SP w.heap.size g n1 n0 deep T ((w.setCell ⟨g, 0, none⟩ (I (wrap64 (n - 1)))).alloc (.cells T.cells.toArray 66)) := by
        have hh : ((w.setCell ⟨g, 0, none⟩ (I (wrap64 (n - 1)))).alloc (.cells T.cells.toArray 66)).heap[w.heap.size]? = some (.cells T.cells.toArray 66 (0, 0)) := by
          have := heap_alloc_new (w.setCell ⟨g, 0, none⟩ (I (wrap64 (n - 1)))) (.cells T.cells.toArray 66)
          simpa [World.setCell] using this
        have hc' : ∀ j, ((w.setCell ⟨g, 0, none⟩ (I (wrap64 (n - 1)))).alloc (.cells T.cells.toArray 66)).cell? ⟨w.heap.size, j, none⟩ = T.cells[j]? := fun j => by rw [cell_of_row _ _ _ _ _ _ hh]; simp
        exact ⟨(HA.out.cellAt hlt1 hn1 0).trans h1, (HA.out.cellAt hlt0 hn0 0).trans h0, hc' 3, hc' 4, hc' 5, hc' 6, hc' 7, hc' 8, hc' 9, hc' 10⟩
      have hSb : SP w.heap.size g n1 n0 deep T ((((w.setCell ⟨g, 0, none⟩ (I (wrap64 (n - 1)))).alloc (.cells T.cells.toArray 66)).alloc (.cells T.ty.cells.toArray 60)).drew) :=
        hSa.move (Below.heap_alloc _ _ _ (by simp; omega)) (Below.heap_alloc _ _ _ (by simp; omega)) (Below.heap_alloc _ _ _ (by simp))
      have hsz2 : ((((w.setCell ⟨g, 0, none⟩ (I (wrap64 (n - 1)))).alloc (.cells T.cells.toArray 66)).alloc (.cells T.ty.cells.toArray 60)).drew).heap.size = w.heap.size + 2 := by
        show (((w.setCell ⟨g, 0, none⟩ (I (wrap64 (n - 1)))).alloc (.cells T.cells.toArray 66)).alloc (.cells T.ty.cells.toArray 60)).heap.size = _
        simp
      have hSc : SP w.heap.size g n1 n0 deep T w1 :=
        hSb.move (hgr.block _ (by omega) (by simp; omega)) (hgr.block _ (by omega) (by simp; omega)) (hgr.block _ (by omega) (by simp))
      have hge : g < w.heap.size + 2 := by omega
      have hgN : (some g : Option Nat) ≠ some (w.heap.size + 1) := by simp; omega
      have hk1 : Kp g w w1 (wrap64 (n - 1)) :=
        ⟨hgr.os.trans HB.out.os, hgr.tape.trans HB.out.tape, hgr.output.trans HB.out.output, by have := hgr.size; omega, fun k hk hg => (hgr.block k (by omega) (by simp; omega)).trans (HB.out.block k hk hg),
          (hgr.cell_far _ (by rw [hsz2]; exact hge) hgN).trans HB.out.cell, (hgr.frozen_far _ (by rw [hsz2]; exact hge) hgN).trans HB.out.frozen⟩
      have hty1 : TysL (okg g w1) w1 s' := ⟨hs', fun c hc => by
        rw [hl'] at hc
        rcases List.mem_cons.1 hc with rfl | hc
        · exact HT.out.tyL.kp hk1
        · exact (HT.out.tysL.1.kp hk1).2 c hc⟩
      have HC35 := Lib.hid (types_any 70 g s' 1 w1 (wrap64 (n - 1)) (by omega) hty1 hk1.cell hk1.frozen)
      rw [hl'] at HC35
      have HK1 := Lib.hid hk1
      have HSA := Lib.hid hSa
      have HSB := Lib.hid hSb
      have HSC := Lib.hid hSc
      have HRA := Lib.hid hra
      clear hl' hs' hgr hk1 hty1 hSa hSb hSc hra hge hgN
      generalize tysM 70 (T.ty :: T.tys.l) (wrap64 (n - 1)) = q at *
      obtain ⟨qb, qn⟩ := q
      cases qb
      · obtain rfl : (true, qn) = res := by have := HR2.out; simpa using this
        clear HR2
        unfold Tre.cells
        go_enter Tryz.func57, Tryz.ntmps57
        go_wp2_with fail
        refine wp_region_held_drew (S := (fun w' => w'.cell? ⟨n1, 0, none⟩ = some (.pointer (some ⟨g, 0, none⟩)) ∧ w'.cell? ⟨n0, 0, none⟩ = some (I deep) ∧ w'.cell? ⟨w.heap.size, 3, none⟩ = some (.string T.tx) ∧ w'.cell? ⟨w.heap.size, 4, none⟩ = some (I T.ty.k) ∧ w'.cell? ⟨w.heap.size, 5, none⟩ = some (I T.ty.s) ∧ w'.cell? ⟨w.heap.size, 6, none⟩ = some (.string T.ty.nm) ∧ w'.cell? ⟨w.heap.size, 7, none⟩ = some (I T.ty.n) ∧ w'.cell? ⟨w.heap.size, 8, none⟩ = some T.ty.args.v ∧ w'.cell? ⟨w.heap.size, 9, none⟩ = some T.tys.v ∧ w'.cell? ⟨w.heap.size, 10, none⟩ = some T.kids.v)) (by kernel_rfl) ?_ (fun hHeld => ?_)
        · exact HSA.out
        refine wpAnyH_take (i := 0) (oi := { dst := some 10, op := Op.load 56 (Operand.tmp 1), type := 56, pos := "law.go:38", after := #[], guard := none }) (v := ?va0) rfl (by kernel_rfl) (by kernel_rfl) (by kernel_rfl) (fun _ _ _ h => h) (Or.inl ⟨by rfl, ?ya0⟩) (by assumption) ?ra0
        case ya0 => (intro w hSw; (try dsimp only at hSw); go_simp; try with_reducible rfl)
        try simp only [Act.put, List.setIfInBounds_toArray, List.set_cons_zero, List.set_cons_succ]
        refine wpAnyH_take (i := 1) (oi := { dst := some 11, op := Op.nilCheck (Operand.tmp 10), type := 0, pos := "law.go:38", after := #[{ on := 0, ground := Ground.data }], guard := none }) (v := ?va1) rfl (by kernel_rfl) (by kernel_rfl) (by kernel_rfl) (fun _ _ _ h => h) (Or.inl ⟨by rfl, ?ya1⟩) (by assumption) ?ra1
        case ya1 => (intro w hSw; (try dsimp only at hSw); go_simp; try with_reducible rfl)
        try simp only [Act.put, List.setIfInBounds_toArray, List.set_cons_zero, List.set_cons_succ]
        refine wpAnyH_ready (rs := [2]) (by kernel_rfl) (by simp) (AllReadyH.cons (o := { dst := some 12, op := Op.load 3 (Operand.tmp 11), type := 3, pos := "law.go:38", after := #[{ on := 1, ground := Ground.data }], guard := none }) rfl (fun K hK => ?_) AllReadyH.nil)
        go_simp
        refine hK.out _ _ HSA.out (fun hHeld => ?_)
        clear hK K
        try simp only [Act.put, List.setIfInBounds_toArray, List.set_cons_zero, List.set_cons_succ]
        refine wpAnyH_take (i := 3) (oi := { dst := some 13, op := Op.binOp BinOp.lss 3 (Operand.tmp 12) (Operand.const (Value.int IntKind.i64 0)) 3, type := 4, pos := "law.go:38", after := #[{ on := 2, ground := Ground.data }], guard := none }) (v := ?va3) rfl (by kernel_rfl) (by kernel_rfl) (by kernel_rfl) (fun _ _ _ h => h) (Or.inl ⟨by rfl, ?ya3⟩) (by assumption) ?ra3
        case ya3 => (intro w hSw; (try dsimp only at hSw); go_simp; try with_reducible rfl)
        try simp only [Act.put, List.setIfInBounds_toArray, List.set_cons_zero, List.set_cons_succ]
        refine wpAnyH_take (i := 4) (oi := { dst := some 14, op := Op.move (Operand.tmp 13), type := 4, pos := "law.go:38", after := #[{ on := 3, ground := Ground.data }], guard := none }) (v := ?va4) rfl (by kernel_rfl) (by kernel_rfl) (by kernel_rfl) (fun _ _ _ h => h) (Or.inl ⟨by rfl, ?ya4⟩) (by assumption) ?ra4
        case ya4 => (intro w hSw; (try dsimp only at hSw); go_simp; try with_reducible rfl)
        try simp only [Act.put, List.setIfInBounds_toArray, List.set_cons_zero, List.set_cons_succ]
        refine wpAnyH_take (i := 5) (oi := { dst := some 15, op := Op.fieldAddr 66 (Operand.tmp 3) 3, type := 0, pos := "law.go:38", after := #[{ on := 4, ground := Ground.guard }], guard := some (4, false) }) (v := ?va5) rfl (by kernel_rfl) (by kernel_rfl) (by kernel_rfl) (fun _ _ _ h => h) (Or.inl ⟨by rfl, ?ya5⟩) (by assumption) ?ra5
        case ya5 => (intro w hSw; (try dsimp only at hSw); go_simp; try with_reducible rfl)
        try simp only [Act.put, List.setIfInBounds_toArray, List.set_cons_zero, List.set_cons_succ]
        refine wpAnyH_take (i := 6) (oi := { dst := some 16, op := Op.load 9 (Operand.tmp 15), type := 9, pos := "law.go:38", after := #[{ on := 5, ground := Ground.data }, { on := 4, ground := Ground.guard }], guard := some (4, false) }) (v := ?va6) rfl (by kernel_rfl) (by kernel_rfl) (by kernel_rfl) (fun _ _ _ h => h) (Or.inl ⟨by rfl, ?ya6⟩) (by assumption) ?ra6
        case ya6 => (intro w hSw; (try dsimp only at hSw); go_simp; try with_reducible rfl)
        try simp only [Act.put, List.setIfInBounds_toArray, List.set_cons_zero, List.set_cons_succ]
        refine wpAnyH_take (i := 7) (oi := { dst := some 17, op := Op.call { callee := Callee.builtin Builtin.len, args := #[Operand.tmp 16], argTypes := #[9] }, type := 3, pos := "law.go:38", after := #[{ on := 6, ground := Ground.data }, { on := 4, ground := Ground.guard }], guard := some (4, false) }) (v := ?va7) rfl (by kernel_rfl) (by kernel_rfl) (by kernel_rfl) (fun _ _ _ h => h) (Or.inl ⟨by rfl, ?ya7⟩) (by assumption) ?ra7
        case ya7 => (intro w hSw; (try dsimp only at hSw); go_simp; try with_reducible rfl)
        try simp only [Act.put, List.setIfInBounds_toArray, List.set_cons_zero, List.set_cons_succ]
        refine wpAnyH_take (i := 8) (oi := { dst := some 18, op := Op.binOp BinOp.gtr 3 (Operand.tmp 17) (Operand.const (Value.int IntKind.i64 200)) 3, type := 4, pos := "law.go:38", after := #[{ on := 7, ground := Ground.data }, { on := 4, ground := Ground.guard }], guard := some (4, false) }) (v := ?va8) rfl (by kernel_rfl) (by kernel_rfl) (by kernel_rfl) (fun _ _ _ h => h) (Or.inl ⟨by rfl, ?ya8⟩) (by assumption) ?ra8
        case ya8 => (intro w hSw; (try dsimp only at hSw); go_simp; try with_reducible rfl)
        try simp only [Act.put, List.setIfInBounds_toArray, List.set_cons_zero, List.set_cons_succ]
        refine wpAnyH_take (i := 9) (oi := { dst := some 19, op := Op.pick (Operand.tmp 14) (Operand.const (Value.bool true)) (Operand.tmp 18), type := 4, pos := "law.go:38", after := #[{ on := 4, ground := Ground.data }, { on := 8, ground := Ground.data }], guard := none }) (v := ?va9) rfl (by kernel_rfl) (by kernel_rfl) (by kernel_rfl) (fun _ _ _ h => h) (Or.inl ⟨by rfl, ?ya9⟩) (by assumption) ?ra9
        case ya9 => (intro w hSw; (try dsimp only at hSw); go_simp; try with_reducible rfl)
        try simp only [Act.put, List.setIfInBounds_toArray, List.set_cons_zero, List.set_cons_succ]
        refine wpAnyH_take (i := 10) (oi := { dst := some 20, op := Op.move (Operand.tmp 19), type := 4, pos := "law.go:38", after := #[{ on := 9, ground := Ground.data }, { on := 4, ground := Ground.chain }], guard := none }) (v := ?va10) rfl (by kernel_rfl) (by kernel_rfl) (by kernel_rfl) (fun _ _ _ h => h) (Or.inl ⟨by rfl, ?ya10⟩) (by assumption) ?ra10
        case ya10 => (intro w hSw; (try dsimp only at hSw); go_simp; try with_reducible rfl)
        try simp only [Act.put, List.setIfInBounds_toArray, List.set_cons_zero, List.set_cons_succ]
        refine wpAnyH_take (i := 11) (oi := { dst := some 21, op := Op.fieldAddr 66 (Operand.tmp 3) 4, type := 0, pos := "law.go:38", after := #[{ on := 10, ground := Ground.guard }], guard := some (10, false) }) (v := ?va11) rfl (by kernel_rfl) (by kernel_rfl) (by kernel_rfl) (fun _ _ _ h => h) (Or.inl ⟨by rfl, ?ya11⟩) (by assumption) ?ra11
        case ya11 => (intro w hSw; (try dsimp only at hSw); go_simp; try with_reducible rfl)
        try simp only [Act.put, List.setIfInBounds_toArray, List.set_cons_zero, List.set_cons_succ]
        refine wpAnyH_take (i := 12) (oi := { dst := some 22, op := Op.load 60 (Operand.tmp 21), type := 60, pos := "law.go:38", after := #[{ on := 11, ground := Ground.data }, { on := 10, ground := Ground.guard }], guard := some (10, false) }) (v := ?va12) rfl (by kernel_rfl) (by kernel_rfl) (by kernel_rfl) (fun _ _ _ h => h) (Or.inl ⟨by rfl, ?ya12⟩) (by assumption) ?ra12
        case ya12 => (intro w hSw; (try dsimp only at hSw); go_simp; try with_reducible rfl)
        try simp only [Act.put, List.setIfInBounds_toArray, List.set_cons_zero, List.set_cons_succ]
        refine wpAnyH_take (i := 14) (oi := { dst := some 24, op := Op.fieldAddr 66 (Operand.tmp 3) 5, type := 0, pos := "law.go:38", after := #[{ on := 10, ground := Ground.guard }], guard := some (10, false) }) (v := ?va14) rfl (by kernel_rfl) (by kernel_rfl) (by kernel_rfl) (fun _ _ _ h => h) (Or.inl ⟨by rfl, ?ya14⟩) (by assumption) ?ra14
        case ya14 => (intro w hSw; (try dsimp only at hSw); go_simp; try with_reducible rfl)
        try simp only [Act.put, List.setIfInBounds_toArray, List.set_cons_zero, List.set_cons_succ]
        refine wpAnyH_take (i := 15) (oi := { dst := some 25, op := Op.load 51 (Operand.tmp 24), type := 51, pos := "law.go:38", after := #[{ on := 14, ground := Ground.data }, { on := 10, ground := Ground.guard }], guard := some (10, false) }) (v := ?va15) rfl (by kernel_rfl) (by kernel_rfl) (by kernel_rfl) (fun _ _ _ h => h) (Or.inl ⟨by rfl, ?ya15⟩) (by assumption) ?ra15
        case ya15 => (intro w hSw; (try dsimp only at hSw); go_simp; try with_reducible rfl)
        try simp only [Act.put, List.setIfInBounds_toArray, List.set_cons_zero, List.set_cons_succ]
        refine wpAnyH_take (i := 17) (oi := { dst := some 27, op := Op.load 56 (Operand.tmp 1), type := 56, pos := "law.go:38", after := #[{ on := 10, ground := Ground.guard }], guard := some (10, false) }) (v := ?va17) rfl (by kernel_rfl) (by kernel_rfl) (by kernel_rfl) (fun _ _ _ h => h) (Or.inl ⟨by rfl, ?ya17⟩) (by assumption) ?ra17
        case ya17 => (intro w hSw; (try dsimp only at hSw); go_simp; try with_reducible rfl)
        try simp only [Act.put, List.setIfInBounds_toArray, List.set_cons_zero, List.set_cons_succ]
        refine wpAnyH_ready (rs := [13]) (by kernel_rfl) (by simp) (AllReadyH.cons (o := { dst := some 23, op := Op.buildSlice 51 1 #[(0, Operand.tmp 22)], type := 51, pos := "law.go:38", after := #[{ on := 12, ground := Ground.data }, { on := 10, ground := Ground.guard }], guard := some (10, false) }) rfl (fun K hK => ?_) AllReadyH.nil)
        go_simp
        refine hK.out _ _ HSB.out (fun hHeld => ?_)
        clear hK K
        try simp only [Act.put, List.setIfInBounds_toArray, List.set_cons_zero, List.set_cons_succ]
        refine wpAnyH_ready (rs := [16]) (by kernel_rfl) (by simp) (AllReadyH.cons (o := { dst := some 26, op := Op.call { callee := Callee.builtin Builtin.append, args := #[Operand.tmp 23, Operand.tmp 25], argTypes := #[51, 51] }, type := 51, pos := "law.go:38", after := #[{ on := 13, ground := Ground.data }, { on := 15, ground := Ground.data }, { on := 10, ground := Ground.chain }, { on := 10, ground := Ground.guard }], guard := some (10, false) }) rfl (fun K hK => ?_) AllReadyH.nil)
        refine step_app (by rfl) (.tmp 23) (.tmp 25) 51 51 rfl s'.v HRA.out ?_
        refine hK.out _ _ HSC.out (fun hHeld => ?_)
        clear hK K
        try simp only [Act.put, List.setIfInBounds_toArray, List.set_cons_zero, List.set_cons_succ]
        refine wpAnyH_ready (rs := [18]) (by kernel_rfl) (by simp) (AllReadyH.cons (o := { dst := some 28, op := Op.call { callee := Callee.value (Operand.func 25), args := #[Operand.tmp 26, Operand.const (Value.int IntKind.i64 1), Operand.tmp 27], argTypes := #[51, 3, 56] }, type := 4, pos := "law.go:38", after := #[{ on := 16, ground := Ground.data }, { on := 17, ground := Ground.data }, { on := 16, ground := Ground.chain }, { on := 10, ground := Ground.guard }], guard := some (10, false) }) rfl (fun K hK => ?_) AllReadyH.nil)
        (go_simp; go_at_call 25; refine HC35.out.mono ?_; rintro e w2 ⟨rfl, hk2⟩; dsimp only)
        refine hK.out _ _ (HSC.out.kp hn1 hn0 hM hk2) (fun hHeld => ?_)
        clear hK K
        try simp only [Act.put, List.setIfInBounds_toArray, List.set_cons_zero, List.set_cons_succ]
        refine wpAnyH_take (i := 19) (oi := { dst := some 29, op := Op.unOp UnOp.not 4 (Operand.tmp 28), type := 4, pos := "law.go:38", after := #[{ on := 18, ground := Ground.data }, { on := 10, ground := Ground.guard }], guard := some (10, false) }) (v := ?va19) rfl (by kernel_rfl) (by kernel_rfl) (by kernel_rfl) (fun _ _ _ h => h) (Or.inl ⟨by rfl, ?ya19⟩) (by assumption) ?ra19
        case ya19 => (intro w hSw; (try dsimp only at hSw); go_simp; try with_reducible rfl)
        try simp only [Act.put, List.setIfInBounds_toArray, List.set_cons_zero, List.set_cons_succ]
        refine wpAnyH_take (i := 20) (oi := { dst := some 30, op := Op.pick (Operand.tmp 20) (Operand.const (Value.bool true)) (Operand.tmp 29), type := 4, pos := "law.go:38", after := #[{ on := 10, ground := Ground.data }, { on := 19, ground := Ground.data }], guard := none }) (v := ?va20) rfl (by kernel_rfl) (by kernel_rfl) (by kernel_rfl) (fun _ _ _ h => h) (Or.inl ⟨by rfl, ?ya20⟩) (by assumption) ?ra20
        case ya20 => (intro w hSw; (try dsimp only at hSw); go_simp; try with_reducible rfl)
        try simp only [Act.put, List.setIfInBounds_toArray, List.set_cons_zero, List.set_cons_succ]
        refine wpAnyH_take (i := 21) (oi := { dst := some 31, op := Op.move (Operand.tmp 30), type := 4, pos := "law.go:38", after := #[{ on := 20, ground := Ground.data }, { on := 18, ground := Ground.chain }], guard := none }) (v := ?va21) rfl (by kernel_rfl) (by kernel_rfl) (by kernel_rfl) (fun _ _ _ h => h) (Or.inl ⟨by rfl, ?ya21⟩) (by assumption) ?ra21
        case ya21 => (intro w hSw; (try dsimp only at hSw); go_simp; try with_reducible rfl)
        try simp only [Act.put, List.setIfInBounds_toArray, List.set_cons_zero, List.set_cons_succ]
        refine wpAnyH_take (i := 22) (oi := { dst := some 32, op := Op.fieldAddr 66 (Operand.tmp 3) 6, type := 0, pos := "law.go:38", after := #[{ on := 21, ground := Ground.guard }], guard := some (21, false) }) (v := undef) rfl (by kernel_rfl) (by kernel_rfl) (by kernel_rfl) (fun _ _ _ h => h) (Or.inr ⟨by rfl, rfl⟩) (by assumption) ?_
        try simp only [Act.put, List.setIfInBounds_toArray, List.set_cons_zero, List.set_cons_succ]
        refine wpAnyH_take (i := 23) (oi := { dst := some 33, op := Op.load 52 (Operand.tmp 32), type := 52, pos := "law.go:38", after := #[{ on := 22, ground := Ground.data }, { on := 21, ground := Ground.guard }], guard := some (21, false) }) (v := undef) rfl (by kernel_rfl) (by kernel_rfl) (by kernel_rfl) (fun _ _ _ h => h) (Or.inr ⟨by rfl, rfl⟩) (by assumption) ?_
        try simp only [Act.put, List.setIfInBounds_toArray, List.set_cons_zero, List.set_cons_succ]
        refine wpAnyH_take (i := 24) (oi := { dst := some 34, op := Op.load 3 (Operand.tmp 2), type := 3, pos := "law.go:38", after := #[{ on := 21, ground := Ground.guard }], guard := some (21, false) }) (v := undef) rfl (by kernel_rfl) (by kernel_rfl) (by kernel_rfl) (fun _ _ _ h => h) (Or.inr ⟨by rfl, rfl⟩) (by assumption) ?_
        try simp only [Act.put, List.setIfInBounds_toArray, List.set_cons_zero, List.set_cons_succ]
        refine wpAnyH_take (i := 25) (oi := { dst := some 35, op := Op.binOp BinOp.add 3 (Operand.tmp 34) (Operand.const (Value.int IntKind.i64 1)) 3, type := 3, pos := "law.go:38", after := #[{ on := 24, ground := Ground.data }, { on := 21, ground := Ground.guard }], guard := some (21, false) }) (v := undef) rfl (by kernel_rfl) (by kernel_rfl) (by kernel_rfl) (fun _ _ _ h => h) (Or.inr ⟨by rfl, rfl⟩) (by assumption) ?_
        try simp only [Act.put, List.setIfInBounds_toArray, List.set_cons_zero, List.set_cons_succ]
        refine wpAnyH_take (i := 26) (oi := { dst := some 36, op := Op.load 56 (Operand.tmp 1), type := 56, pos := "law.go:38", after := #[{ on := 21, ground := Ground.guard }], guard := some (21, false) }) (v := undef) rfl (by kernel_rfl) (by kernel_rfl) (by kernel_rfl) (fun _ _ _ h => h) (Or.inr ⟨by rfl, rfl⟩) (by assumption) ?_
        try simp only [Act.put, List.setIfInBounds_toArray, List.set_cons_zero, List.set_cons_succ]
        refine wpAnyH_take (i := 27) (oi := { dst := some 37, op := Op.call { callee := Callee.value (Operand.func 26), args := #[Operand.tmp 33, Operand.tmp 35, Operand.tmp 36], argTypes := #[52, 3, 56] }, type := 4, pos := "law.go:38", after := #[{ on := 23, ground := Ground.data }, { on := 25, ground := Ground.data }, { on := 26, ground := Ground.data }, { on := 21, ground := Ground.chain }, { on := 21, ground := Ground.guard }], guard := some (21, false) }) (v := undef) rfl (by kernel_rfl) (by kernel_rfl) (by kernel_rfl) (fun _ _ _ h => h) (Or.inr ⟨by rfl, rfl⟩) (by assumption) ?_
        try simp only [Act.put, List.setIfInBounds_toArray, List.set_cons_zero, List.set_cons_succ]
        refine wpAnyH_take (i := 28) (oi := { dst := some 38, op := Op.unOp UnOp.not 4 (Operand.tmp 37), type := 4, pos := "law.go:38", after := #[{ on := 27, ground := Ground.data }, { on := 21, ground := Ground.guard }], guard := some (21, false) }) (v := undef) rfl (by kernel_rfl) (by kernel_rfl) (by kernel_rfl) (fun _ _ _ h => h) (Or.inr ⟨by rfl, rfl⟩) (by assumption) ?_
        try simp only [Act.put, List.setIfInBounds_toArray, List.set_cons_zero, List.set_cons_succ]
        refine wpAnyH_take (i := 29) (oi := { dst := some 39, op := Op.pick (Operand.tmp 31) (Operand.const (Value.bool true)) (Operand.tmp 38), type := 4, pos := "law.go:38", after := #[{ on := 21, ground := Ground.data }, { on := 28, ground := Ground.data }], guard := none }) (v := ?va29) rfl (by kernel_rfl) (by kernel_rfl) (by kernel_rfl) (fun _ _ _ h => h) (Or.inl ⟨by rfl, ?ya29⟩) (by assumption) ?ra29
        case ya29 => (intro w hSw; (try dsimp only at hSw); go_simp; try with_reducible rfl)
        try simp only [Act.put, List.setIfInBounds_toArray, List.set_cons_zero, List.set_cons_succ]
        refine wpAnyH_take (i := 30) (oi := { dst := some 4, op := Op.assign (Operand.tmp 39), type := 4, pos := "law.go:38", after := #[{ on := 29, ground := Ground.data }, { on := 27, ground := Ground.chain }, { on := 0, ground := Ground.phase }, { on := 1, ground := Ground.phase }, { on := 2, ground := Ground.phase }, { on := 3, ground := Ground.phase }, { on := 4, ground := Ground.phase }, { on := 5, ground := Ground.phase }, { on := 6, ground := Ground.phase }, { on := 7, ground := Ground.phase }, { on := 8, ground := Ground.phase }, { on := 9, ground := Ground.phase }, { on := 10, ground := Ground.phase }, { on := 11, ground := Ground.phase }, { on := 12, ground := Ground.phase }, { on := 13, ground := Ground.phase }, { on := 14, ground := Ground.phase }, { on := 15, ground := Ground.phase }, { on := 16, ground := Ground.phase }, { on := 17, ground := Ground.phase }, { on := 18, ground := Ground.phase }, { on := 19, ground := Ground.phase }, { on := 20, ground := Ground.phase }, { on := 21, ground := Ground.phase }, { on := 22, ground := Ground.phase }, { on := 23, ground := Ground.phase }, { on := 24, ground := Ground.phase }, { on := 25, ground := Ground.phase }, { on := 26, ground := Ground.phase }, { on := 27, ground := Ground.phase }, { on := 28, ground := Ground.phase }, { on := 29, ground := Ground.phase }], guard := none }) (v := ?va30) rfl (by kernel_rfl) (by kernel_rfl) (by kernel_rfl) (fun _ _ _ h => h) (Or.inl ⟨by rfl, ?ya30⟩) (by assumption) ?ra30
        case ya30 => (intro w hSw; (try dsimp only at hSw); go_simp; try with_reducible rfl)
        try simp only [Act.put, List.setIfInBounds_toArray, List.set_cons_zero, List.set_cons_succ]
        refine wpAnyH_done (by kernel_rfl) ?_ _
        go_wp2_with fail
        go_ret
        exact Ans.mk (HK1.out.trans hk2)
      · have HR3 := Lib.hid (show (!(rec T.kids.l qn).1, (rec T.kids.l qn).2) = res by have := HR2.out; simpa using this)
        clear HR2
        have e36 : wrap64 ((deep : Int) + 1) = (deep : Int) + 1 := IntWalk.wrap64_in _ (by omega)
        have e36' : IntKind.i64.wrap ((deep : Int) + 1) = (deep : Int) + 1 := IntWalk.i64_in _ (by omega)
        have HC36 := Lib.hid (fun (w2 : World) (hk : Kp g w1 w2 qn) => IH.out w2 T.kids qn (HT.out.kidsL.kp (HK1.out.trans hk)) hk.cell hk.frozen)
        generalize rec T.kids.l qn = q2 at *
        unfold Tre.cells
        go_enter Tryz.func57, Tryz.ntmps57
        go_wp2_with fail
        refine wp_region_held_drew (S := (fun w' => w'.cell? ⟨n1, 0, none⟩ = some (.pointer (some ⟨g, 0, none⟩)) ∧ w'.cell? ⟨n0, 0, none⟩ = some (I deep) ∧ w'.cell? ⟨w.heap.size, 3, none⟩ = some (.string T.tx) ∧ w'.cell? ⟨w.heap.size, 4, none⟩ = some (I T.ty.k) ∧ w'.cell? ⟨w.heap.size, 5, none⟩ = some (I T.ty.s) ∧ w'.cell? ⟨w.heap.size, 6, none⟩ = some (.string T.ty.nm) ∧ w'.cell? ⟨w.heap.size, 7, none⟩ = some (I T.ty.n) ∧ w'.cell? ⟨w.heap.size, 8, none⟩ = some T.ty.args.v ∧ w'.cell? ⟨w.heap.size, 9, none⟩ = some T.tys.v ∧ w'.cell? ⟨w.heap.size, 10, none⟩ = some T.kids.v)) (by kernel_rfl) ?_ (fun hHeld => ?_)
        · exact HSA.out
        refine wpAnyH_take (i := 0) (oi := { dst := some 10, op := Op.load 56 (Operand.tmp 1), type := 56, pos := "law.go:38", after := #[], guard := none }) (v := ?vb0) rfl (by kernel_rfl) (by kernel_rfl) (by kernel_rfl) (fun _ _ _ h => h) (Or.inl ⟨by rfl, ?yb0⟩) (by assumption) ?rb0
        case yb0 => (intro w hSw; (try dsimp only at hSw); go_simp; try with_reducible rfl)
        try simp only [Act.put, List.setIfInBounds_toArray, List.set_cons_zero, List.set_cons_succ]
        refine wpAnyH_take (i := 1) (oi := { dst := some 11, op := Op.nilCheck (Operand.tmp 10), type := 0, pos := "law.go:38", after := #[{ on := 0, ground := Ground.data }], guard := none }) (v := ?vb1) rfl (by kernel_rfl) (by kernel_rfl) (by kernel_rfl) (fun _ _ _ h => h) (Or.inl ⟨by rfl, ?yb1⟩) (by assumption) ?rb1
        case yb1 => (intro w hSw; (try dsimp only at hSw); go_simp; try with_reducible rfl)
        try simp only [Act.put, List.setIfInBounds_toArray, List.set_cons_zero, List.set_cons_succ]
        refine wpAnyH_ready (rs := [2]) (by kernel_rfl) (by simp) (AllReadyH.cons (o := { dst := some 12, op := Op.load 3 (Operand.tmp 11), type := 3, pos := "law.go:38", after := #[{ on := 1, ground := Ground.data }], guard := none }) rfl (fun K hK => ?_) AllReadyH.nil)
        go_simp
        refine hK.out _ _ HSA.out (fun hHeld => ?_)
        clear hK K
        try simp only [Act.put, List.setIfInBounds_toArray, List.set_cons_zero, List.set_cons_succ]
        refine wpAnyH_take (i := 3) (oi := { dst := some 13, op := Op.binOp BinOp.lss 3 (Operand.tmp 12) (Operand.const (Value.int IntKind.i64 0)) 3, type := 4, pos := "law.go:38", after := #[{ on := 2, ground := Ground.data }], guard := none }) (v := ?vb3) rfl (by kernel_rfl) (by kernel_rfl) (by kernel_rfl) (fun _ _ _ h => h) (Or.inl ⟨by rfl, ?yb3⟩) (by assumption) ?rb3
        case yb3 => (intro w hSw; (try dsimp only at hSw); go_simp; try with_reducible rfl)
        try simp only [Act.put, List.setIfInBounds_toArray, List.set_cons_zero, List.set_cons_succ]
        refine wpAnyH_take (i := 4) (oi := { dst := some 14, op := Op.move (Operand.tmp 13), type := 4, pos := "law.go:38", after := #[{ on := 3, ground := Ground.data }], guard := none }) (v := ?vb4) rfl (by kernel_rfl) (by kernel_rfl) (by kernel_rfl) (fun _ _ _ h => h) (Or.inl ⟨by rfl, ?yb4⟩) (by assumption) ?rb4
        case yb4 => (intro w hSw; (try dsimp only at hSw); go_simp; try with_reducible rfl)
        try simp only [Act.put, List.setIfInBounds_toArray, List.set_cons_zero, List.set_cons_succ]
        refine wpAnyH_take (i := 5) (oi := { dst := some 15, op := Op.fieldAddr 66 (Operand.tmp 3) 3, type := 0, pos := "law.go:38", after := #[{ on := 4, ground := Ground.guard }], guard := some (4, false) }) (v := ?vb5) rfl (by kernel_rfl) (by kernel_rfl) (by kernel_rfl) (fun _ _ _ h => h) (Or.inl ⟨by rfl, ?yb5⟩) (by assumption) ?rb5
        case yb5 => (intro w hSw; (try dsimp only at hSw); go_simp; try with_reducible rfl)
        try simp only [Act.put, List.setIfInBounds_toArray, List.set_cons_zero, List.set_cons_succ]
        refine wpAnyH_take (i := 6) (oi := { dst := some 16, op := Op.load 9 (Operand.tmp 15), type := 9, pos := "law.go:38", after := #[{ on := 5, ground := Ground.data }, { on := 4, ground := Ground.guard }], guard := some (4, false) }) (v := ?vb6) rfl (by kernel_rfl) (by kernel_rfl) (by kernel_rfl) (fun _ _ _ h => h) (Or.inl ⟨by rfl, ?yb6⟩) (by assumption) ?rb6
        case yb6 => (intro w hSw; (try dsimp only at hSw); go_simp; try with_reducible rfl)
        try simp only [Act.put, List.setIfInBounds_toArray, List.set_cons_zero, List.set_cons_succ]
        refine wpAnyH_take (i := 7) (oi := { dst := some 17, op := Op.call { callee := Callee.builtin Builtin.len, args := #[Operand.tmp 16], argTypes := #[9] }, type := 3, pos := "law.go:38", after := #[{ on := 6, ground := Ground.data }, { on := 4, ground := Ground.guard }], guard := some (4, false) }) (v := ?vb7) rfl (by kernel_rfl) (by kernel_rfl) (by kernel_rfl) (fun _ _ _ h => h) (Or.inl ⟨by rfl, ?yb7⟩) (by assumption) ?rb7
        case yb7 => (intro w hSw; (try dsimp only at hSw); go_simp; try with_reducible rfl)
        try simp only [Act.put, List.setIfInBounds_toArray, List.set_cons_zero, List.set_cons_succ]
        refine wpAnyH_take (i := 8) (oi := { dst := some 18, op := Op.binOp BinOp.gtr 3 (Operand.tmp 17) (Operand.const (Value.int IntKind.i64 200)) 3, type := 4, pos := "law.go:38", after := #[{ on := 7, ground := Ground.data }, { on := 4, ground := Ground.guard }], guard := some (4, false) }) (v := ?vb8) rfl (by kernel_rfl) (by kernel_rfl) (by kernel_rfl) (fun _ _ _ h => h) (Or.inl ⟨by rfl, ?yb8⟩) (by assumption) ?rb8
        case yb8 => (intro w hSw; (try dsimp only at hSw); go_simp; try with_reducible rfl)
        try simp only [Act.put, List.setIfInBounds_toArray, List.set_cons_zero, List.set_cons_succ]
        refine wpAnyH_take (i := 9) (oi := { dst := some 19, op := Op.pick (Operand.tmp 14) (Operand.const (Value.bool true)) (Operand.tmp 18), type := 4, pos := "law.go:38", after := #[{ on := 4, ground := Ground.data }, { on := 8, ground := Ground.data }], guard := none }) (v := ?vb9) rfl (by kernel_rfl) (by kernel_rfl) (by kernel_rfl) (fun _ _ _ h => h) (Or.inl ⟨by rfl, ?yb9⟩) (by assumption) ?rb9
        case yb9 => (intro w hSw; (try dsimp only at hSw); go_simp; try with_reducible rfl)
        try simp only [Act.put, List.setIfInBounds_toArray, List.set_cons_zero, List.set_cons_succ]
        refine wpAnyH_take (i := 10) (oi := { dst := some 20, op := Op.move (Operand.tmp 19), type := 4, pos := "law.go:38", after := #[{ on := 9, ground := Ground.data }, { on := 4, ground := Ground.chain }], guard := none }) (v := ?vb10) rfl (by kernel_rfl) (by kernel_rfl) (by kernel_rfl) (fun _ _ _ h => h) (Or.inl ⟨by rfl, ?yb10⟩) (by assumption) ?rb10
        case yb10 => (intro w hSw; (try dsimp only at hSw); go_simp; try with_reducible rfl)
        try simp only [Act.put, List.setIfInBounds_toArray, List.set_cons_zero, List.set_cons_succ]
        refine wpAnyH_take (i := 11) (oi := { dst := some 21, op := Op.fieldAddr 66 (Operand.tmp 3) 4, type := 0, pos := "law.go:38", after := #[{ on := 10, ground := Ground.guard }], guard := some (10, false) }) (v := ?vb11) rfl (by kernel_rfl) (by kernel_rfl) (by kernel_rfl) (fun _ _ _ h => h) (Or.inl ⟨by rfl, ?yb11⟩) (by assumption) ?rb11
        case yb11 => (intro w hSw; (try dsimp only at hSw); go_simp; try with_reducible rfl)
        try simp only [Act.put, List.setIfInBounds_toArray, List.set_cons_zero, List.set_cons_succ]
        refine wpAnyH_take (i := 12) (oi := { dst := some 22, op := Op.load 60 (Operand.tmp 21), type := 60, pos := "law.go:38", after := #[{ on := 11, ground := Ground.data }, { on := 10, ground := Ground.guard }], guard := some (10, false) }) (v := ?vb12) rfl (by kernel_rfl) (by kernel_rfl) (by kernel_rfl) (fun _ _ _ h => h) (Or.inl ⟨by rfl, ?yb12⟩) (by assumption) ?rb12
        case yb12 => (intro w hSw; (try dsimp only at hSw); go_simp; try with_reducible rfl)
        try simp only [Act.put, List.setIfInBounds_toArray, List.set_cons_zero, List.set_cons_succ]
        refine wpAnyH_take (i := 14) (oi := { dst := some 24, op := Op.fieldAddr 66 (Operand.tmp 3) 5, type := 0, pos := "law.go:38", after := #[{ on := 10, ground := Ground.guard }], guard := some (10, false) }) (v := ?vb14) rfl (by kernel_rfl) (by kernel_rfl) (by kernel_rfl) (fun _ _ _ h => h) (Or.inl ⟨by rfl, ?yb14⟩) (by assumption) ?rb14
        case yb14 => (intro w hSw; (try dsimp only at hSw); go_simp; try with_reducible rfl)
        try simp only [Act.put, List.setIfInBounds_toArray, List.set_cons_zero, List.set_cons_succ]
        refine wpAnyH_take (i := 15) (oi := { dst := some 25, op := Op.load 51 (Operand.tmp 24), type := 51, pos := "law.go:38", after := #[{ on := 14, ground := Ground.data }, { on := 10, ground := Ground.guard }], guard := some (10, false) }) (v := ?vb15) rfl (by kernel_rfl) (by kernel_rfl) (by kernel_rfl) (fun _ _ _ h => h) (Or.inl ⟨by rfl, ?yb15⟩) (by assumption) ?rb15
        case yb15 => (intro w hSw; (try dsimp only at hSw); go_simp; try with_reducible rfl)
        try simp only [Act.put, List.setIfInBounds_toArray, List.set_cons_zero, List.set_cons_succ]
        refine wpAnyH_take (i := 17) (oi := { dst := some 27, op := Op.load 56 (Operand.tmp 1), type := 56, pos := "law.go:38", after := #[{ on := 10, ground := Ground.guard }], guard := some (10, false) }) (v := ?vb17) rfl (by kernel_rfl) (by kernel_rfl) (by kernel_rfl) (fun _ _ _ h => h) (Or.inl ⟨by rfl, ?yb17⟩) (by assumption) ?rb17
        case yb17 => (intro w hSw; (try dsimp only at hSw); go_simp; try with_reducible rfl)
        try simp only [Act.put, List.setIfInBounds_toArray, List.set_cons_zero, List.set_cons_succ]
        refine wpAnyH_ready (rs := [13]) (by kernel_rfl) (by simp) (AllReadyH.cons (o := { dst := some 23, op := Op.buildSlice 51 1 #[(0, Operand.tmp 22)], type := 51, pos := "law.go:38", after := #[{ on := 12, ground := Ground.data }, { on := 10, ground := Ground.guard }], guard := some (10, false) }) rfl (fun K hK => ?_) AllReadyH.nil)
        go_simp
        refine hK.out _ _ HSB.out (fun hHeld => ?_)
        clear hK K
        try simp only [Act.put, List.setIfInBounds_toArray, List.set_cons_zero, List.set_cons_succ]
        refine wpAnyH_ready (rs := [16]) (by kernel_rfl) (by simp) (AllReadyH.cons (o := { dst := some 26, op := Op.call { callee := Callee.builtin Builtin.append, args := #[Operand.tmp 23, Operand.tmp 25], argTypes := #[51, 51] }, type := 51, pos := "law.go:38", after := #[{ on := 13, ground := Ground.data }, { on := 15, ground := Ground.data }, { on := 10, ground := Ground.chain }, { on := 10, ground := Ground.guard }], guard := some (10, false) }) rfl (fun K hK => ?_) AllReadyH.nil)
        refine step_app (by rfl) (.tmp 23) (.tmp 25) 51 51 rfl s'.v HRA.out ?_
        refine hK.out _ _ HSC.out (fun hHeld => ?_)
        clear hK K
        try simp only [Act.put, List.setIfInBounds_toArray, List.set_cons_zero, List.set_cons_succ]
        refine wpAnyH_ready (rs := [18]) (by kernel_rfl) (by simp) (AllReadyH.cons (o := { dst := some 28, op := Op.call { callee := Callee.value (Operand.func 25), args := #[Operand.tmp 26, Operand.const (Value.int IntKind.i64 1), Operand.tmp 27], argTypes := #[51, 3, 56] }, type := 4, pos := "law.go:38", after := #[{ on := 16, ground := Ground.data }, { on := 17, ground := Ground.data }, { on := 16, ground := Ground.chain }, { on := 10, ground := Ground.guard }], guard := some (10, false) }) rfl (fun K hK => ?_) AllReadyH.nil)
        (go_simp; go_at_call 25; refine HC35.out.mono ?_; rintro e w2 ⟨rfl, hk2⟩; dsimp only)
        refine hK.out _ _ (HSC.out.kp hn1 hn0 hM hk2) (fun hHeld => ?_)
        clear hK K
        try simp only [Act.put, List.setIfInBounds_toArray, List.set_cons_zero, List.set_cons_succ]
        refine wpAnyH_take (i := 19) (oi := { dst := some 29, op := Op.unOp UnOp.not 4 (Operand.tmp 28), type := 4, pos := "law.go:38", after := #[{ on := 18, ground := Ground.data }, { on := 10, ground := Ground.guard }], guard := some (10, false) }) (v := ?vb19) rfl (by kernel_rfl) (by kernel_rfl) (by kernel_rfl) (fun _ _ _ h => h) (Or.inl ⟨by rfl, ?yb19⟩) (by assumption) ?rb19
        case yb19 => (intro w hSw; (try dsimp only at hSw); go_simp; try with_reducible rfl)
        try simp only [Act.put, List.setIfInBounds_toArray, List.set_cons_zero, List.set_cons_succ]
        refine wpAnyH_take (i := 20) (oi := { dst := some 30, op := Op.pick (Operand.tmp 20) (Operand.const (Value.bool true)) (Operand.tmp 29), type := 4, pos := "law.go:38", after := #[{ on := 10, ground := Ground.data }, { on := 19, ground := Ground.data }], guard := none }) (v := ?vb20) rfl (by kernel_rfl) (by kernel_rfl) (by kernel_rfl) (fun _ _ _ h => h) (Or.inl ⟨by rfl, ?yb20⟩) (by assumption) ?rb20
        case yb20 => (intro w hSw; (try dsimp only at hSw); go_simp; try with_reducible rfl)
        try simp only [Act.put, List.setIfInBounds_toArray, List.set_cons_zero, List.set_cons_succ]
        refine wpAnyH_take (i := 21) (oi := { dst := some 31, op := Op.move (Operand.tmp 30), type := 4, pos := "law.go:38", after := #[{ on := 20, ground := Ground.data }, { on := 18, ground := Ground.chain }], guard := none }) (v := ?vb21) rfl (by kernel_rfl) (by kernel_rfl) (by kernel_rfl) (fun _ _ _ h => h) (Or.inl ⟨by rfl, ?yb21⟩) (by assumption) ?rb21
        case yb21 => (intro w hSw; (try dsimp only at hSw); go_simp; try with_reducible rfl)
        try simp only [Act.put, List.setIfInBounds_toArray, List.set_cons_zero, List.set_cons_succ]
        refine wpAnyH_take (i := 22) (oi := { dst := some 32, op := Op.fieldAddr 66 (Operand.tmp 3) 6, type := 0, pos := "law.go:38", after := #[{ on := 21, ground := Ground.guard }], guard := some (21, false) }) (v := ?vb22) rfl (by kernel_rfl) (by kernel_rfl) (by kernel_rfl) (fun _ _ _ h => h) (Or.inl ⟨by rfl, ?yb22⟩) (by assumption) ?rb22
        case yb22 => (intro w hSw; (try dsimp only at hSw); go_simp; try with_reducible rfl)
        try simp only [Act.put, List.setIfInBounds_toArray, List.set_cons_zero, List.set_cons_succ]
        refine wpAnyH_take (i := 23) (oi := { dst := some 33, op := Op.load 52 (Operand.tmp 32), type := 52, pos := "law.go:38", after := #[{ on := 22, ground := Ground.data }, { on := 21, ground := Ground.guard }], guard := some (21, false) }) (v := ?vb23) rfl (by kernel_rfl) (by kernel_rfl) (by kernel_rfl) (fun _ _ _ h => h) (Or.inl ⟨by rfl, ?yb23⟩) (by assumption) ?rb23
        case yb23 => (intro w hSw; (try dsimp only at hSw); go_simp; try with_reducible rfl)
        try simp only [Act.put, List.setIfInBounds_toArray, List.set_cons_zero, List.set_cons_succ]
        refine wpAnyH_take (i := 24) (oi := { dst := some 34, op := Op.load 3 (Operand.tmp 2), type := 3, pos := "law.go:38", after := #[{ on := 21, ground := Ground.guard }], guard := some (21, false) }) (v := ?vb24) rfl (by kernel_rfl) (by kernel_rfl) (by kernel_rfl) (fun _ _ _ h => h) (Or.inl ⟨by rfl, ?yb24⟩) (by assumption) ?rb24
        case yb24 => (intro w hSw; (try dsimp only at hSw); go_simp; try with_reducible rfl)
        try simp only [Act.put, List.setIfInBounds_toArray, List.set_cons_zero, List.set_cons_succ]
        refine wpAnyH_take (i := 25) (oi := { dst := some 35, op := Op.binOp BinOp.add 3 (Operand.tmp 34) (Operand.const (Value.int IntKind.i64 1)) 3, type := 3, pos := "law.go:38", after := #[{ on := 24, ground := Ground.data }, { on := 21, ground := Ground.guard }], guard := some (21, false) }) (v := ?vb25) rfl (by kernel_rfl) (by kernel_rfl) (by kernel_rfl) (fun _ _ _ h => h) (Or.inl ⟨by rfl, ?yb25⟩) (by assumption) ?rb25
        case yb25 => (intro w hSw; (try dsimp only at hSw); go_simp; try with_reducible rfl)
        try simp only [Act.put, List.setIfInBounds_toArray, List.set_cons_zero, List.set_cons_succ]
        refine wpAnyH_take (i := 26) (oi := { dst := some 36, op := Op.load 56 (Operand.tmp 1), type := 56, pos := "law.go:38", after := #[{ on := 21, ground := Ground.guard }], guard := some (21, false) }) (v := ?vb26) rfl (by kernel_rfl) (by kernel_rfl) (by kernel_rfl) (fun _ _ _ h => h) (Or.inl ⟨by rfl, ?yb26⟩) (by assumption) ?rb26
        case yb26 => (intro w hSw; (try dsimp only at hSw); go_simp; try with_reducible rfl)
        try simp only [Act.put, List.setIfInBounds_toArray, List.set_cons_zero, List.set_cons_succ]
        refine wpAnyH_ready (rs := [27]) (by kernel_rfl) (by simp) (AllReadyH.cons (o := { dst := some 37, op := Op.call { callee := Callee.value (Operand.func 26), args := #[Operand.tmp 33, Operand.tmp 35, Operand.tmp 36], argTypes := #[52, 3, 56] }, type := 4, pos := "law.go:38", after := #[{ on := 23, ground := Ground.data }, { on := 25, ground := Ground.data }, { on := 26, ground := Ground.data }, { on := 21, ground := Ground.chain }, { on := 21, ground := Ground.guard }], guard := some (21, false) }) rfl (fun K hK => ?_) AllReadyH.nil)
        (go_simp; go_at_call 26; refine (HC36.out _ hk2).mono ?_; rintro e w3 ⟨rfl, hk3⟩; dsimp only)
        refine hK.out _ _ ((HSC.out.kp hn1 hn0 hM hk2).kp hn1 hn0 hM hk3) (fun hHeld => ?_)
        clear hK K
        try simp only [Act.put, List.setIfInBounds_toArray, List.set_cons_zero, List.set_cons_succ]
        refine wpAnyH_take (i := 28) (oi := { dst := some 38, op := Op.unOp UnOp.not 4 (Operand.tmp 37), type := 4, pos := "law.go:38", after := #[{ on := 27, ground := Ground.data }, { on := 21, ground := Ground.guard }], guard := some (21, false) }) (v := ?vb28) rfl (by kernel_rfl) (by kernel_rfl) (by kernel_rfl) (fun _ _ _ h => h) (Or.inl ⟨by rfl, ?yb28⟩) (by assumption) ?rb28
        case yb28 => (intro w hSw; (try dsimp only at hSw); go_simp; try with_reducible rfl)
        try simp only [Act.put, List.setIfInBounds_toArray, List.set_cons_zero, List.set_cons_succ]
        refine wpAnyH_take (i := 29) (oi := { dst := some 39, op := Op.pick (Operand.tmp 31) (Operand.const (Value.bool true)) (Operand.tmp 38), type := 4, pos := "law.go:38", after := #[{ on := 21, ground := Ground.data }, { on := 28, ground := Ground.data }], guard := none }) (v := ?vb29) rfl (by kernel_rfl) (by kernel_rfl) (by kernel_rfl) (fun _ _ _ h => h) (Or.inl ⟨by rfl, ?yb29⟩) (by assumption) ?rb29
        case yb29 => (intro w hSw; (try dsimp only at hSw); go_simp; try with_reducible rfl)
        try simp only [Act.put, List.setIfInBounds_toArray, List.set_cons_zero, List.set_cons_succ]
        refine wpAnyH_take (i := 30) (oi := { dst := some 4, op := Op.assign (Operand.tmp 39), type := 4, pos := "law.go:38", after := #[{ on := 29, ground := Ground.data }, { on := 27, ground := Ground.chain }, { on := 0, ground := Ground.phase }, { on := 1, ground := Ground.phase }, { on := 2, ground := Ground.phase }, { on := 3, ground := Ground.phase }, { on := 4, ground := Ground.phase }, { on := 5, ground := Ground.phase }, { on := 6, ground := Ground.phase }, { on := 7, ground := Ground.phase }, { on := 8, ground := Ground.phase }, { on := 9, ground := Ground.phase }, { on := 10, ground := Ground.phase }, { on := 11, ground := Ground.phase }, { on := 12, ground := Ground.phase }, { on := 13, ground := Ground.phase }, { on := 14, ground := Ground.phase }, { on := 15, ground := Ground.phase }, { on := 16, ground := Ground.phase }, { on := 17, ground := Ground.phase }, { on := 18, ground := Ground.phase }, { on := 19, ground := Ground.phase }, { on := 20, ground := Ground.phase }, { on := 21, ground := Ground.phase }, { on := 22, ground := Ground.phase }, { on := 23, ground := Ground.phase }, { on := 24, ground := Ground.phase }, { on := 25, ground := Ground.phase }, { on := 26, ground := Ground.phase }, { on := 27, ground := Ground.phase }, { on := 28, ground := Ground.phase }, { on := 29, ground := Ground.phase }], guard := none }) (v := ?vb30) rfl (by kernel_rfl) (by kernel_rfl) (by kernel_rfl) (fun _ _ _ h => h) (Or.inl ⟨by rfl, ?yb30⟩) (by assumption) ?rb30
        case yb30 => (intro w hSw; (try dsimp only at hSw); go_simp; try with_reducible rfl)
        try simp only [Act.put, List.setIfInBounds_toArray, List.set_cons_zero, List.set_cons_succ]
        refine wpAnyH_done (by kernel_rfl) ?_ _
        go_wp2_with fail
        go_ret
        have h := HR3.out
        subst h
        exact Ans.mk ((HK1.out.trans hk2).trans hk3)
end Go.Proofs.YtfbaikijnjafbaaGreatDoor
