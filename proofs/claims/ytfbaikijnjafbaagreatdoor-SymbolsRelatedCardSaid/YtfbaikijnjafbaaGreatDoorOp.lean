/- An argument of package api's types that can be read is one of the data of Ty. No condition. -/
import Derived.Test.YtfbaikijnjafbaaGreatDoorTy
namespace Go.Proofs.YtfbaikijnjafbaaGreatDoor
set_option linter.unusedSimpArgs false
set_option linter.unusedVariables false
open Go.RowKit Go.WideShapes

theorem list_of {α : Type} {p : Nat → α → Prop} : ∀ (n : Nat) (_ : ∀ i, i < n → ∃ x, p i x), ∃ l : List α, l.length = n ∧ ∀ i (h : i < l.length), p i l[i]
  | 0, _ => ⟨[], rfl, fun i h => absurd h (by simp)⟩
  | n + 1, h => by
    obtain ⟨l, hl, hp⟩ := list_of n fun i hi => h i (by omega)
    obtain ⟨x, hx⟩ := h n (by omega)
    refine ⟨l ++ [x], by simp [hl], fun i hi => ?_⟩
    by_cases hlt : i < l.length
    · rw [List.getElem_append_left hlt]; exact hp i hlt
    · have : i = n := by simp at hi; omega
      subst this
      rw [List.getElem_append_right (by omega)]
      simpa [hl] using hx

theorem cell_spot {w : World} {a : Addr} {v : Value} (h : w.cell? a = some v) : a = ⟨a.block, a.off, none⟩ ∧ a.block < w.heap.size := by
  unfold World.cell? at h
  split at h
  · rename_i c _ _ hb
    split at h
    · cases h
    · rename_i hs
      refine ⟨?_, ?_⟩
      · cases a with | mk b o s => cases s with
        | none => rfl
        | some s => simp at hs
      · exact (Array.getElem?_eq_some_iff.1 hb).1
  · cases h

section
variable {H : Type} {enc : TypeId × Value → H} {w : World}
abbrev inW (w : World) : Nat → Prop := fun k => k < w.heap.size

theorem sl_of {α : Type} {cells : α → List Value} {good : α → Prop} {st by_ n : Nat} {t e : TypeId} {cs : List Value} (ht : Tryz.prog.underlying t = some (.slice e)) (hst : Tryz.prog.cellsOf e = st) (h0 : 0 < st) (hby : Tryz.prog.bytesOf e = by_)
    (hel : ∀ m cs, m < n → Rd enc Tryz.prog w m e cs → ∃ x, cs = cells x ∧ good x) (h : Rd enc Tryz.prog w n t cs) :
    ∃ s : Sl α, cs = [s.v] ∧ SlAt (inW w) w st by_ cells s ∧ (∀ x ∈ s.l, good x) ∧ s.l.length * by_ ≤ reachBytes := by
  rcases h.slice ht with h | ⟨a, len, cap, m, hn, hcs, hl, hc, hi⟩
  · exact ⟨⟨none, 0, []⟩, h, ⟨by simp, by simp, .inl rfl⟩, (fun x hx => by cases hx), by simp⟩
  · rw [hst] at hi
    rw [hby] at hc
    have hi' : ∀ i, i < len → ∃ x, (cells x).length = st ∧ (∀ j, j < st → w.cell? ((a.add (i * st)).add j) = (cells x)[j]?) ∧ good x := fun i h => by
      obtain ⟨cs', h1, h2, h3⟩ := hi i h
      obtain ⟨x, rfl, hx⟩ := hel m cs' (by omega) h3
      exact ⟨x, h1, h2, hx⟩
    obtain ⟨l, hll, hp⟩ := list_of len hi'
    refine ⟨⟨some a, cap, l⟩, by rw [hcs]; simp [Sl.v, hll], ⟨by simpa [hll] using hl, by have h1 := Nat.mul_le_mul_right by_ hl; dsimp only; rw [hll]; unfold reachBytes at hc; omega, ?_⟩, fun x hx => ?_, by have h1 := Nat.mul_le_mul_right by_ hl; dsimp only; rw [hll]; omega⟩
    · by_cases hz : l = []
      · exact .inl hz
      · have hpos : 0 < l.length := List.length_pos_iff.2 hz
        obtain ⟨g1, g2, _⟩ := hp 0 hpos
        have g3 := g2 0 h0
        rw [List.getElem?_eq_getElem (by omega), show (0 * st) = 0 by simp, show (a.add 0).add 0 = a by simp [Addr.add]] at g3
        obtain ⟨ea, hb⟩ := cell_spot g3
        refine .inr ⟨a.block, a.off, congrArg some ea, hb, fun i hi => ?_⟩
        obtain ⟨k1, k2, _⟩ := hp i hi
        intro j hj
        have := k2 j (by rw [← k1]; exact hj)
        rw [ea] at this
        rwa [add_plain, add_plain] at this
    · obtain ⟨i, hi, rfl⟩ := List.getElem_of_mem hx
      exact (hp i hi).2.2

theorem cells3 : Tryz.prog.cellsOf 3 = 1 := by kernel_rfl
theorem cells2 : Tryz.prog.cellsOf 2 = 1 := by kernel_rfl
theorem cells9 : Tryz.prog.cellsOf 9 = 1 := by kernel_rfl
theorem cells39 : Tryz.prog.cellsOf 44 = 1 := by kernel_rfl
theorem cells40 : Tryz.prog.cellsOf 51 = 1 := by kernel_rfl
theorem cells41 : Tryz.prog.cellsOf 52 = 1 := by kernel_rfl
theorem cells63 : Tryz.prog.cellsOf 58 = 1 := by kernel_rfl
theorem cells64 : Tryz.prog.cellsOf 61 = 1 := by kernel_rfl
theorem cells61 : Tryz.prog.cellsOf 60 = 5 := by kernel_rfl
theorem cells73 : Tryz.prog.cellsOf 66 = 12 := by kernel_rfl
theorem cells43 : Tryz.prog.cellsOf 54 = 13 := by kernel_rfl
theorem cells66 : Tryz.prog.cellsOf 63 = 13 := by kernel_rfl
theorem cells75 : Tryz.prog.cellsOf 68 = 9 := by kernel_rfl
theorem cells77 : Tryz.prog.cellsOf 70 = 15 := by kernel_rfl
theorem cells80 : Tryz.prog.cellsOf 73 = 13 := by kernel_rfl
theorem cells94 : Tryz.prog.cellsOf 120 = 7 := by kernel_rfl
theorem cells28 : Tryz.prog.cellsOf 28 = 6 := by kernel_rfl
theorem cells22 : Tryz.prog.cellsOf 22 = 1 := by kernel_rfl
theorem cells23 : Tryz.prog.cellsOf 23 = 1 := by kernel_rfl
theorem cells24 : Tryz.prog.cellsOf 24 = 1 := by kernel_rfl
theorem cells25 : Tryz.prog.cellsOf 25 = 1 := by kernel_rfl
theorem cells26 : Tryz.prog.cellsOf 26 = 1 := by kernel_rfl

theorem len5 {cs : List Value} (h : cs.length = 5) : ∃ c0 c1 c2 c3 c4, cs = [c0, c1, c2, c3, c4] := by
  match cs, h with
  | [c0, c1, c2, c3, c4], _ => exact ⟨_, _, _, _, _, rfl⟩
theorem len6 {cs : List Value} (h : cs.length = 6) : ∃ c0 c1 c2 c3 c4 c5, cs = [c0, c1, c2, c3, c4, c5] := by
  match cs, h with
  | [c0, c1, c2, c3, c4, c5], _ => exact ⟨_, _, _, _, _, _, rfl⟩
theorem len7 {cs : List Value} (h : cs.length = 7) : ∃ c0 c1 c2 c3 c4 c5 c6, cs = [c0, c1, c2, c3, c4, c5, c6] := by
  match cs, h with
  | [c0, c1, c2, c3, c4, c5, c6], _ => exact ⟨_, _, _, _, _, _, _, rfl⟩
theorem len9 {cs : List Value} (h : cs.length = 9) : ∃ c0 c1 c2 c3 c4 c5 c6 c7 c8, cs = [c0, c1, c2, c3, c4, c5, c6, c7, c8] := by
  match cs, h with
  | [c0, c1, c2, c3, c4, c5, c6, c7, c8], _ => exact ⟨_, _, _, _, _, _, _, _, _, rfl⟩
theorem len12 {cs : List Value} (h : cs.length = 12) : ∃ c0 c1 c2 c3 c4 c5 c6 c7 c8 c9 c10 c11, cs = [c0, c1, c2, c3, c4, c5, c6, c7, c8, c9, c10, c11] := by
  match cs, h with
  | [c0, c1, c2, c3, c4, c5, c6, c7, c8, c9, c10, c11], _ => exact ⟨_, _, _, _, _, _, _, _, _, _, _, _, rfl⟩
theorem len13 {cs : List Value} (h : cs.length = 13) : ∃ c0 c1 c2 c3 c4 c5 c6 c7 c8 c9 c10 c11 c12, cs = [c0, c1, c2, c3, c4, c5, c6, c7, c8, c9, c10, c11, c12] := by
  match cs, h with
  | [c0, c1, c2, c3, c4, c5, c6, c7, c8, c9, c10, c11, c12], _ => exact ⟨_, _, _, _, _, _, _, _, _, _, _, _, _, rfl⟩
theorem len15 {cs : List Value} (h : cs.length = 15) : ∃ c0 c1 c2 c3 c4 c5 c6 c7 c8 c9 c10 c11 c12 c13 c14, cs = [c0, c1, c2, c3, c4, c5, c6, c7, c8, c9, c10, c11, c12, c13, c14] := by
  match cs, h with
  | [c0, c1, c2, c3, c4, c5, c6, c7, c8, c9, c10, c11, c12, c13, c14], _ => exact ⟨_, _, _, _, _, _, _, _, _, _, _, _, _, _, _, rfl⟩

/-- The fields of a struct, cell by cell. -/
theorem rd_field {n : Nat} {t : TypeId} {fs : Array Field} {cs : List Value} (ht : Tryz.prog.underlying t = some (.struct fs)) (h : Rd enc Tryz.prog w n t cs) :
    ∃ m, m < n ∧ cs.length = Tryz.prog.cellsOf t ∧ ∀ (i : Nat) (f : Field), fs[i]? = some f → Rd enc Tryz.prog w m f.type ((cs.drop f.offset).take (Tryz.prog.cellsOf f.type)) := by
  obtain ⟨h1, m, hn, h2⟩ := h.struct ht
  exact ⟨m, by omega, h1, h2⟩

theorem rd_fld {m : Nat} {fs : Array Field} {cs : List Value} (hf : ∀ (i : Nat) (f : Field), fs[i]? = some f → Rd enc Tryz.prog w m f.type ((cs.drop f.offset).take (Tryz.prog.cellsOf f.type)))
    (i : Nat) (ty off : Nat) (h : (fs[i]?).map (fun f => (f.type, f.offset)) = some (ty, off)) : Rd enc Tryz.prog w m ty ((cs.drop off).take (Tryz.prog.cellsOf ty)) := by
  obtain ⟨f, hff, he⟩ := Option.map_eq_some_iff.1 h
  simp only [Prod.mk.injEq] at he
  obtain ⟨rfl, rfl⟩ := he
  exact hf i f hff

theorem ints_of {n : Nat} {cs : List Value} (h : Rd enc Tryz.prog w n 44 cs) : ∃ s : Sl Int, cs = [s.v] ∧ IntsL (inW w) w s := by
  obtain ⟨s, h1, h2, h3, h4⟩ := sl_of (cells := fun i => [I i]) (good := wf) (st := 1) (by_ := 8) Tryz.underlying44 cells3 (by omega) (by kernel_rfl) (fun m cs _ h => by
    obtain ⟨i, rfl, hi⟩ := h.int Tryz.underlying3
    exact ⟨i, rfl, hi⟩) h
  exact ⟨s, h1, h2, h3⟩

theorem ty_of : ∀ (n : Nat) (cs : List Value), Rd enc Tryz.prog w n 60 cs → ∃ T : Ty, cs = T.cells ∧ TyL (inW w) w T := by
  intro n
  induction n using Nat.strongRecOn with
  | ind n ih =>
    intro cs h
    obtain ⟨m, hm, hl, hf⟩ := rd_field Tryz.underlying60 h
    rw [cells61] at hl
    obtain ⟨c0, c1, c2, c3, c4, rfl⟩ := len5 hl
    · skip
      have f0 := rd_fld hf 0 3 0 rfl; have f1 := rd_fld hf 1 3 1 rfl; have f2 := rd_fld hf 2 9 2 rfl; have f3 := rd_fld hf 3 3 3 rfl; have f4 := rd_fld hf 4 51 4 rfl
      simp only [cells3, cells9, cells40, List.drop_succ_cons, List.drop_zero, List.take_succ_cons, List.take_zero] at f0 f1 f2 f3 f4
      obtain ⟨k, e0, w0⟩ := f0.int Tryz.underlying3
      obtain ⟨s, e1, w1⟩ := f1.int Tryz.underlying3
      obtain ⟨nm, e2, w2⟩ := f2.string Tryz.underlying9
      obtain ⟨q, e3, w3⟩ := f3.int Tryz.underlying3
      obtain ⟨args, e4, w4, w5, _⟩ := sl_of (cells := Ty.cells) (good := TyL (inW w) w) (st := 5) (by_ := 64) Tryz.underlying51 cells61 (by omega) (by kernel_rfl) (fun k cs hk h => ih k (by omega) cs h) f4
      simp only [List.cons.injEq, and_true] at e0 e1 e2 e3 e4
      subst e0 e1 e2 e3 e4
      exact ⟨.mk k s nm q args, rfl, .mk ⟨w0, w1, w2, w3⟩ w4 w5⟩

theorem tys_of {n : Nat} {cs : List Value} (h : Rd enc Tryz.prog w n 51 cs) : ∃ s : Sl Ty, cs = [s.v] ∧ TysL (inW w) w s ∧ s.l.length * 64 ≤ reachBytes := by
  obtain ⟨s, h1, h2, h3, h4⟩ := sl_of (cells := Ty.cells) (good := TyL (inW w) w) (st := 5) (by_ := 64) Tryz.underlying51 cells61 (by omega) (by kernel_rfl) (fun k cs _ h => ty_of k cs h) h
  exact ⟨s, h1, ⟨h2, h3⟩, h4⟩

theorem tre_of : ∀ (n : Nat) (cs : List Value), Rd enc Tryz.prog w n 66 cs → ∃ T : Tre, cs = T.cells ∧ TreL (inW w) w T := by
  intro n
  induction n using Nat.strongRecOn with
  | ind n ih =>
    intro cs h
    obtain ⟨m, hm, hl, hf⟩ := rd_field Tryz.underlying66 h
    rw [cells73] at hl
    obtain ⟨c0, c1, c2, c3, d0, d1, d2, d3, d4, c5, c6, c7, rfl⟩ := len12 hl
    · skip
      have f0 := rd_fld hf 0 3 0 rfl; have f1 := rd_fld hf 1 3 1 rfl; have f2 := rd_fld hf 2 2 2 rfl; have f3 := rd_fld hf 3 9 3 rfl; have f4 := rd_fld hf 4 60 4 rfl; have f5 := rd_fld hf 5 51 9 rfl; have f6 := rd_fld hf 6 52 10 rfl; have f7 := rd_fld hf 7 3 11 rfl
      simp only [cells2, cells3, cells9, cells40, cells41, cells61, List.drop_succ_cons, List.drop_zero, List.take_succ_cons, List.take_zero] at f0 f1 f2 f3 f4 f5 f6 f7
      obtain ⟨k, e0, w0⟩ := f0.int Tryz.underlying3
      obtain ⟨s, e1, w1⟩ := f1.int Tryz.underlying3
      obtain ⟨q, e2, w2⟩ := f2.int Tryz.underlying2
      obtain ⟨tx, e3, w3⟩ := f3.string Tryz.underlying9
      obtain ⟨ty, e4, w4⟩ := ty_of _ _ f4
      obtain ⟨tys, e5, ⟨w5, w5'⟩, w5''⟩ := tys_of f5
      obtain ⟨kids, e6, w6, w6', _⟩ := sl_of (cells := Tre.cells) (good := TreL (inW w) w) (st := 12) (by_ := 160) Tryz.underlying52 cells73 (by omega) (by kernel_rfl) (fun k cs hk h => ih k (by omega) cs h) f6
      obtain ⟨p, e7, w7⟩ := f7.int Tryz.underlying3
      simp only [Ty.cells, List.cons.injEq, and_true] at e0 e1 e2 e3 e4 e5 e6 e7
      obtain ⟨g0, g1, g2, g3, g4⟩ := e4
      subst e0 e1 e2 e3 g0 g1 g2 g3 g4 e5 e6 e7
      exact ⟨.mk k s q tx ty tys kids p, rfl, .mk ⟨w0, w1, w2, w3, w7, w5''⟩ w4 w5 w5' w6 w6'⟩

theorem tres_of {n : Nat} {cs : List Value} (h : Rd enc Tryz.prog w n 52 cs) : ∃ s : Sl Tre, cs = [s.v] ∧ TresL (inW w) w s := by
  obtain ⟨s, h1, h2, h3, h4⟩ := sl_of (cells := Tre.cells) (good := TreL (inW w) w) (st := 12) (by_ := 160) Tryz.underlying52 cells73 (by omega) (by kernel_rfl) (fun k cs _ h => tre_of k cs h) h
  exact ⟨s, h1, h2, h3⟩

theorem cls_of {n : Nat} {cs : List Value} (h : Rd enc Tryz.prog w n 54 cs) : ∃ c : Cls, cs = c.cells ∧ ClsL (inW w) w c := by
  obtain ⟨m, _, hl, hf⟩ := rd_field Tryz.underlying54 h
  rw [cells43] at hl
  obtain ⟨c0, c1, c2, c3, c4, c5, c6, c7, c8, c9, c10, c11, c12, rfl⟩ := len13 hl
  · skip
    have f0 := rd_fld hf 0 9 0 rfl; have f1 := rd_fld hf 1 3 1 rfl; have f2 := rd_fld hf 2 3 2 rfl; have f3 := rd_fld hf 3 3 3 rfl; have f4 := rd_fld hf 4 44 4 rfl; have f5 := rd_fld hf 5 51 5 rfl; have f6 := rd_fld hf 6 44 6 rfl
    have f7 := rd_fld hf 7 44 7 rfl; have f8 := rd_fld hf 8 44 8 rfl; have f9 := rd_fld hf 9 44 9 rfl; have f10 := rd_fld hf 10 52 10 rfl; have f11 := rd_fld hf 11 52 11 rfl; have f12 := rd_fld hf 12 3 12 rfl
    simp only [cells3, cells9, cells39, cells40, cells41, List.drop_succ_cons, List.drop_zero, List.take_succ_cons, List.take_zero] at f0 f1 f2 f3 f4 f5 f6 f7 f8 f9 f10 f11 f12
    obtain ⟨x0, e0, w0⟩ := f0.string Tryz.underlying9
    obtain ⟨x1, e1, w1⟩ := f1.int Tryz.underlying3
    obtain ⟨x2, e2, w2⟩ := f2.int Tryz.underlying3
    obtain ⟨x3, e3, w3⟩ := f3.int Tryz.underlying3
    obtain ⟨x4, e4, w4⟩ := ints_of f4
    obtain ⟨x5, e5, w5, _⟩ := tys_of f5
    obtain ⟨x6, e6, w6⟩ := ints_of f6
    obtain ⟨x7, e7, w7⟩ := ints_of f7
    obtain ⟨x8, e8, w8⟩ := ints_of f8
    obtain ⟨x9, e9, w9⟩ := ints_of f9
    obtain ⟨x10, e10, w10⟩ := tres_of f10
    obtain ⟨x11, e11, w11⟩ := tres_of f11
    obtain ⟨x12, e12, w12⟩ := f12.int Tryz.underlying3
    simp only [List.cons.injEq, and_true] at e0 e1 e2 e3 e4 e5 e6 e7 e8 e9 e10 e11 e12
    subst e0 e1 e2 e3 e4 e5 e6 e7 e8 e9 e10 e11 e12
    exact ⟨⟨x0, x1, x2, x3, x4, x5, x6, x7, x8, x9, x10, x11, x12⟩, rfl, w0, ⟨w1, w2, w3, w12⟩, ⟨w4, w6, w7, w8, w9⟩, w5, w10, w11⟩

theorem loc_of {n : Nat} {cs : List Value} (h : Rd enc Tryz.prog w n 120 cs) : ∃ c : Loc, cs = c.cells ∧ LocL (inW w) w c := by
  obtain ⟨m, _, hl, hf⟩ := rd_field Tryz.underlying120 h
  rw [cells94] at hl
  obtain ⟨c0, c1, d0, d1, d2, d3, d4, rfl⟩ := len7 hl
  · skip
    have f0 := rd_fld hf 0 9 0 rfl; have f1 := rd_fld hf 1 3 1 rfl; have f2 := rd_fld hf 2 60 2 rfl
    simp only [cells3, cells9, cells61, List.drop_succ_cons, List.drop_zero, List.take_succ_cons, List.take_zero] at f0 f1 f2
    obtain ⟨x0, e0, w0⟩ := f0.string Tryz.underlying9
    obtain ⟨x1, e1, w1⟩ := f1.int Tryz.underlying3
    obtain ⟨x2, e2, w2⟩ := ty_of _ _ f2
    simp only [Ty.cells, List.cons.injEq, and_true] at e0 e1 e2
    obtain ⟨g0, g1, g2, g3, g4⟩ := e2
    subst e0 e1 g0 g1 g2 g3 g4
    exact ⟨⟨x0, x1, x2⟩, rfl, w0, w1, w2⟩

theorem body_of {n : Nat} {cs : List Value} (h : Rd enc Tryz.prog w n 61 cs) : ∃ x : Option (Addr × Tre), cs = [.pointer (x.map (·.1))] ∧ BodyL (inW w) w x := by
  rcases h.pointer Tryz.underlying61 with h | ⟨a, cs', m, _, h, hl, hc, hr⟩
  · exact ⟨none, h, trivial⟩
  · obtain ⟨T, rfl, hT⟩ := tre_of _ _ hr
    rw [cells73] at hc
    have h0 := hc 0 (by omega)
    rw [show a.add 0 = a by simp [Addr.add]] at h0
    obtain ⟨ea, hb⟩ := cell_spot (v := I T.k) (by rw [h0]; rfl)
    refine ⟨some (a, T), h, a.block, a.off, ea, hb, fun j hj => ?_, hT⟩
    have := hc j (by simpa [Tre.cells] using hj)
    rw [ea] at this
    rwa [add_plain] at this

theorem mth_of {n : Nat} {cs : List Value} (h : Rd enc Tryz.prog w n 63 cs) : ∃ c : Mth, cs = c.cells ∧ MthL (inW w) w c := by
  obtain ⟨m, _, hl, hf⟩ := rd_field Tryz.underlying63 h
  rw [cells66] at hl
  obtain ⟨c0, c1, c2, c3, c4, c5, d0, d1, d2, d3, d4, c7, c8, rfl⟩ := len13 hl
  · skip
    have f0 := rd_fld hf 0 9 0 rfl; have f1 := rd_fld hf 1 3 1 rfl; have f2 := rd_fld hf 2 3 2 rfl; have f3 := rd_fld hf 3 44 3 rfl; have f4 := rd_fld hf 4 3 4 rfl; have f5 := rd_fld hf 5 58 5 rfl; have f6 := rd_fld hf 6 60 6 rfl
    have f7 := rd_fld hf 7 61 11 rfl; have f8 := rd_fld hf 8 3 12 rfl
    simp only [cells3, cells9, cells39, cells61, cells63, cells64, List.drop_succ_cons, List.drop_zero, List.take_succ_cons, List.take_zero] at f0 f1 f2 f3 f4 f5 f6 f7 f8
    obtain ⟨x0, e0, w0⟩ := f0.string Tryz.underlying9
    obtain ⟨x1, e1, w1⟩ := f1.int Tryz.underlying3
    obtain ⟨x2, e2, w2⟩ := f2.int Tryz.underlying3
    obtain ⟨x3, e3, w3⟩ := ints_of f3
    obtain ⟨x4, e4, w4⟩ := f4.int Tryz.underlying3
    obtain ⟨x5, e5, w5, w5', _⟩ := sl_of (cells := Loc.cells) (good := LocL (inW w) w) (st := 7) (by_ := 88) Tryz.underlying58 cells94 (by omega) (by kernel_rfl) (fun k cs _ h => loc_of h) f5
    obtain ⟨x6, e6, w6⟩ := ty_of _ _ f6
    obtain ⟨x7, e7, w7⟩ := body_of f7
    obtain ⟨x8, e8, w8⟩ := f8.int Tryz.underlying3
    simp only [Ty.cells, List.cons.injEq, and_true] at e0 e1 e2 e3 e4 e5 e6 e7 e8
    obtain ⟨g0, g1, g2, g3, g4⟩ := e6
    subst e0 e1 e2 e3 e4 e5 g0 g1 g2 g3 g4 e7 e8
    exact ⟨⟨x0, x1, x2, x3, x4, x5, x6, x7, x8⟩, rfl, w0, ⟨w1, w2, w4, w8⟩, w3, ⟨w5, w5'⟩, w6, w7⟩

theorem fld_of {n : Nat} {cs : List Value} (h : Rd enc Tryz.prog w n 68 cs) : ∃ c : Fld, cs = c.cells ∧ FldL (inW w) w c := by
  obtain ⟨m, _, hl, hf⟩ := rd_field Tryz.underlying68 h
  rw [cells75] at hl
  obtain ⟨c0, c1, c2, d0, d1, d2, d3, d4, c4, rfl⟩ := len9 hl
  · skip
    have f0 := rd_fld hf 0 9 0 rfl; have f1 := rd_fld hf 1 3 1 rfl; have f2 := rd_fld hf 2 3 2 rfl; have f3 := rd_fld hf 3 60 3 rfl; have f4 := rd_fld hf 4 3 8 rfl
    simp only [cells3, cells9, cells61, List.drop_succ_cons, List.drop_zero, List.take_succ_cons, List.take_zero] at f0 f1 f2 f3 f4
    obtain ⟨x0, e0, w0⟩ := f0.string Tryz.underlying9
    obtain ⟨x1, e1, w1⟩ := f1.int Tryz.underlying3
    obtain ⟨x2, e2, w2⟩ := f2.int Tryz.underlying3
    obtain ⟨x3, e3, w3⟩ := ty_of _ _ f3
    obtain ⟨x4, e4, w4⟩ := f4.int Tryz.underlying3
    simp only [Ty.cells, List.cons.injEq, and_true] at e0 e1 e2 e3 e4
    obtain ⟨g0, g1, g2, g3, g4⟩ := e3
    subst e0 e1 e2 g0 g1 g2 g3 g4 e4
    exact ⟨⟨x0, x1, x2, x3, x4⟩, rfl, w0, ⟨w1, w2, w4⟩, w3⟩

theorem tpm_of {n : Nat} {cs : List Value} (h : Rd enc Tryz.prog w n 70 cs) : ∃ c : Tpm, cs = c.cells ∧ TpmL (inW w) w c := by
  obtain ⟨m, _, hl, hf⟩ := rd_field Tryz.underlying70 h
  rw [cells77] at hl
  obtain ⟨c0, c1, c2, c3, c4, d0, d1, d2, d3, d4, h0, h1, h2, h3, h4, rfl⟩ := len15 hl
  · skip
    have f0 := rd_fld hf 0 9 0 rfl; have f1 := rd_fld hf 1 3 1 rfl; have f2 := rd_fld hf 2 3 2 rfl; have f3 := rd_fld hf 3 3 3 rfl; have f4 := rd_fld hf 4 3 4 rfl; have f5 := rd_fld hf 5 60 5 rfl; have f6 := rd_fld hf 6 60 10 rfl
    simp only [cells3, cells9, cells61, List.drop_succ_cons, List.drop_zero, List.take_succ_cons, List.take_zero] at f0 f1 f2 f3 f4 f5 f6
    obtain ⟨x0, e0, w0⟩ := f0.string Tryz.underlying9
    obtain ⟨x1, e1, w1⟩ := f1.int Tryz.underlying3
    obtain ⟨x2, e2, w2⟩ := f2.int Tryz.underlying3
    obtain ⟨x3, e3, w3⟩ := f3.int Tryz.underlying3
    obtain ⟨x4, e4, w4⟩ := f4.int Tryz.underlying3
    obtain ⟨x5, e5, w5⟩ := ty_of _ _ f5
    obtain ⟨x6, e6, w6⟩ := ty_of _ _ f6
    simp only [Ty.cells, List.cons.injEq, and_true] at e0 e1 e2 e3 e4 e5 e6
    obtain ⟨g0, g1, g2, g3, g4⟩ := e5
    obtain ⟨k0, k1, k2, k3, k4⟩ := e6
    subst e0 e1 e2 e3 e4 g0 g1 g2 g3 g4 k0 k1 k2 k3 k4
    exact ⟨⟨x0, x1, x2, x3, x4, x5, x6⟩, rfl, w0, ⟨w1, w2, w3, w4⟩, w5, w6⟩

theorem tym_of {n : Nat} {cs : List Value} (h : Rd enc Tryz.prog w n 73 cs) : ∃ c : Tym, cs = c.cells ∧ TymL (inW w) w c := by
  obtain ⟨m, _, hl, hf⟩ := rd_field Tryz.underlying73 h
  rw [cells80] at hl
  obtain ⟨c0, c1, c2, d0, d1, d2, d3, d4, h0, h1, h2, h3, h4, rfl⟩ := len13 hl
  · skip
    have f0 := rd_fld hf 0 9 0 rfl; have f1 := rd_fld hf 1 3 1 rfl; have f2 := rd_fld hf 2 3 2 rfl; have f3 := rd_fld hf 3 60 3 rfl; have f4 := rd_fld hf 4 60 8 rfl
    simp only [cells3, cells9, cells61, List.drop_succ_cons, List.drop_zero, List.take_succ_cons, List.take_zero] at f0 f1 f2 f3 f4
    obtain ⟨x0, e0, w0⟩ := f0.string Tryz.underlying9
    obtain ⟨x1, e1, w1⟩ := f1.int Tryz.underlying3
    obtain ⟨x2, e2, w2⟩ := f2.int Tryz.underlying3
    obtain ⟨x3, e3, w3⟩ := ty_of _ _ f3
    obtain ⟨x4, e4, w4⟩ := ty_of _ _ f4
    simp only [Ty.cells, List.cons.injEq, and_true] at e0 e1 e2 e3 e4
    obtain ⟨g0, g1, g2, g3, g4⟩ := e3
    obtain ⟨k0, k1, k2, k3, k4⟩ := e4
    subst e0 e1 e2 g0 g1 g2 g3 g4 k0 k1 k2 k3 k4
    exact ⟨⟨x0, x1, x2, x3, x4⟩, rfl, w0, ⟨w1, w2⟩, w3, w4⟩

/-- A program that can be read. -/
theorem prg_of {n : Nat} {cs : List Value} (h : Rd enc Tryz.prog w n 28 cs) : ∃ p : Prg, cs = [p.cls.v, p.mth.v, p.fld.v, p.tpm.v, p.tym.v, I p.main] ∧ PrgL (inW w) w p := by
  obtain ⟨m, _, hl, hf⟩ := rd_field Tryz.underlying28 h
  rw [cells28] at hl
  obtain ⟨c0, c1, c2, c3, c4, c5, rfl⟩ := len6 hl
  · skip
    have f0 := rd_fld hf 0 22 0 rfl; have f1 := rd_fld hf 1 23 1 rfl; have f2 := rd_fld hf 2 24 2 rfl; have f3 := rd_fld hf 3 25 3 rfl; have f4 := rd_fld hf 4 26 4 rfl; have f5 := rd_fld hf 5 3 5 rfl
    simp only [cells3, cells22, cells23, cells24, cells25, cells26, List.drop_succ_cons, List.drop_zero, List.take_succ_cons, List.take_zero] at f0 f1 f2 f3 f4 f5
    obtain ⟨x0, e0, w0, g0, _⟩ := sl_of (cells := Cls.cells) (good := ClsL (inW w) w) (st := 13) (by_ := 240) Tryz.underlying22 cells43 (by omega) (by kernel_rfl) (fun k cs _ h => cls_of h) f0
    obtain ⟨x1, e1, w1, g1, _⟩ := sl_of (cells := Mth.cells) (good := MthL (inW w) w) (st := 13) (by_ := 168) Tryz.underlying23 cells66 (by omega) (by kernel_rfl) (fun k cs _ h => mth_of h) f1
    obtain ⟨x2, e2, w2, g2, _⟩ := sl_of (cells := Fld.cells) (good := FldL (inW w) w) (st := 9) (by_ := 104) Tryz.underlying24 cells75 (by omega) (by kernel_rfl) (fun k cs _ h => fld_of h) f2
    obtain ⟨x3, e3, w3, g3, _⟩ := sl_of (cells := Tpm.cells) (good := TpmL (inW w) w) (st := 15) (by_ := 176) Tryz.underlying25 cells77 (by omega) (by kernel_rfl) (fun k cs _ h => tpm_of h) f3
    obtain ⟨x4, e4, w4, g4, _⟩ := sl_of (cells := Tym.cells) (good := TymL (inW w) w) (st := 13) (by_ := 160) Tryz.underlying26 cells80 (by omega) (by kernel_rfl) (fun k cs _ h => tym_of h) f4
    obtain ⟨x5, e5, w5⟩ := f5.int Tryz.underlying3
    simp only [List.cons.injEq, and_true] at e0 e1 e2 e3 e4 e5
    subst e0 e1 e2 e3 e4 e5
    exact ⟨⟨x0, x1, x2, x3, x4, x5⟩, rfl, w0, g0, w1, g1, w2, g2, w3, g3, w4, g4, w5⟩
end
end Go.Proofs.YtfbaikijnjafbaaGreatDoor
