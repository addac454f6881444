/- What the reference's Ancestors computes is ancM: the queue's rounds are ancLoop's, and the numbers found, in increasing order, are the list sorted. Plain lemmas, no condition. -/
import Derived.Test.YtfbaikijnjafbaaGreatDoorQa
import Derived.Test.YtfbaikijnjafbaaGreatDoorSp
namespace Go.Proofs.YtfbaikijnjafbaaGreatDoor
set_option linter.unusedSimpArgs false
set_option linter.unusedVariables false
open Go.RowKit
set_option maxRecDepth 100000

/-- The numbers from i on, m of them, that a list has. -/
def rangeL (l : List Int) : Nat → Nat → List Int
  | 0, _ => []
  | m + 1, i => if amongM l i = true then (i : Int) :: rangeL l m (i + 1) else rangeL l m (i + 1)
theorem amongM_mem (l : List Int) (x : Int) : amongM l x = true ↔ x ∈ l := by
  unfold amongM
  rw [List.any_eq_true]
  constructor
  · rintro ⟨y, hy, he⟩
    have : y = x := by simpa using he
    exact this ▸ hy
  · intro h
    exact ⟨x, h, by simp⟩
theorem rangeL_mem (l : List Int) : ∀ (m i : Nat) (x : Int), x ∈ rangeL l m i ↔ (x ∈ l ∧ (i : Int) ≤ x ∧ x < (i : Int) + m)
  | 0, i, x => by
    rw [rangeL]
    constructor
    · intro h; cases h
    · rintro ⟨_, h1, h2⟩; omega
  | m + 1, i, x => by
    have ih := rangeL_mem l m (i + 1) x
    rw [rangeL]
    split
    · rename_i hm
      have hm := (amongM_mem l i).1 hm
      rw [List.mem_cons, ih]
      constructor
      · rintro (rfl | ⟨h1, h2, h3⟩)
        · exact ⟨hm, by omega, by omega⟩
        · exact ⟨h1, by omega, by omega⟩
      · rintro ⟨h1, h2, h3⟩
        by_cases he : x = (i : Int)
        · exact .inl he
        · exact .inr ⟨h1, by omega, by omega⟩
    · rename_i hm
      rw [ih]
      constructor
      · rintro ⟨h1, h2, h3⟩
        exact ⟨h1, by omega, by omega⟩
      · rintro ⟨h1, h2, h3⟩
        have he : x ≠ (i : Int) := fun e => hm ((amongM_mem l i).2 (e ▸ h1))
        exact ⟨h1, by omega, by omega⟩
theorem rangeL_sorted (l : List Int) : ∀ (m i : Nat), (rangeL l m i).Pairwise (· < ·)
  | 0, i => by rw [rangeL]; exact List.Pairwise.nil
  | m + 1, i => by
    have ih := rangeL_sorted l m (i + 1)
    rw [rangeL]
    split
    · refine List.Pairwise.cons (fun y hy => ?_) ih
      have := (rangeL_mem l m (i + 1) y).1 hy
      omega
    · exact ih
theorem sorted_ext : ∀ (a b : List Int), a.Pairwise (· < ·) → b.Pairwise (· < ·) → (∀ x, x ∈ a ↔ x ∈ b) → a = b
  | [], [], _, _, _ => rfl
  | [], y :: b, _, _, h => absurd ((h y).2 (by simp)) (by simp)
  | x :: a, [], _, _, h => absurd ((h x).1 (by simp)) (by simp)
  | x :: a, y :: b, ha, hb, h => by
    rw [List.pairwise_cons] at ha hb
    have hxy : x = y := by
      have h1 := (h x).1 (by simp)
      have h2 := (h y).2 (by simp)
      rcases List.mem_cons.1 h1 with e | h1
      · exact e
      · rcases List.mem_cons.1 h2 with e | h2
        · exact e.symm
        · have a1 := hb.1 x h1
          have a2 := ha.1 y h2
          omega
    subst hxy
    rw [sorted_ext a b ha.2 hb.2 (fun z => ?_)]
    have hz := h z
    rw [List.mem_cons, List.mem_cons] at hz
    constructor
    · intro hm
      rcases hz.1 (.inr hm) with e | h'
      · subst e; exact absurd (ha.1 z hm) (by omega)
      · exact h'
    · intro hm
      rcases hz.2 (.inr hm) with e | h'
      · subst e; exact absurd (hb.1 z hm) (by omega)
      · exact h'
theorem range_sort {n : Nat} {l s : List Int} (h : Good n l s) : rangeL l n 0 = l.mergeSort fun x y => decide (x ≤ y) := by
  refine sorted_ext _ _ (rangeL_sorted l n 0) ?_ (fun x => ?_)
  · have h1 : List.Pairwise (fun a b : Int => decide (a ≤ b) = true) (l.mergeSort fun x y => decide (x ≤ y)) := List.pairwise_mergeSort (fun a b c h1 h2 => by simp at *; omega) (fun a b => by simp; omega) l
    have h2 : List.Pairwise (fun a b : Int => a ≠ b) (l.mergeSort fun x y => decide (x ≤ y)) := (List.mergeSort_perm l _).nodup_iff.2 h.nd
    refine (List.pairwise_and_iff.2 ⟨h1, h2⟩).imp ?_
    rintro a b ⟨h3, h4⟩
    simp at h3
    omega
  · rw [rangeL_mem, List.mem_mergeSort]
    constructor
    · exact fun h => h.1
    · intro hx
      have := h.inr x hx
      unfold inM at this
      simp at this
      exact ⟨hx, by omega, by omega⟩
/-- What is found at the end. -/
def ancFin (l : List Cls) (c : Int) : List Int := if inM c l.length = true then (match l[c.toNat]? with | none => [] | some k => ancRaw l k) else []
theorem ancFin_sort (l : List Cls) (c : Int) : ancM l c = (ancFin l c).mergeSort fun x y => decide (x ≤ y) := by
  unfold ancM ancFin
  split
  · cases l[c.toNat]? with
    | none => simp
    | some k => rfl
  · simp
/-- Where the queue stands: ahead of the first round, or behind as many as the list that is left of ancLoop's. -/
def Stand (l : List Cls) (c : Int) (k : Nat) (f : List Int) : Prop := k = 0 ∧ f = [] ∨ ∃ k', k = k' + 1 ∧ ancLoop l (l.length + 1 - k') k' f = ancFin l c
theorem stand_first (l : List Cls) (y : Nat) (h : y < l.length) : Stand l (y : Int) 1 (addL l.length l[y].pars.l []) := by
  refine .inr ⟨0, rfl, ?_⟩
  unfold ancFin
  rw [if_pos (by unfold inM; simp; omega), Int.toNat_natCast, List.getElem?_eq_getElem h]
  rfl
theorem stand_out (l : List Cls) (c : Int) (h : inM c l.length = false) : Stand l c 1 [] := by
  refine .inr ⟨0, rfl, ?_⟩
  unfold ancFin
  rw [h]
  rfl
theorem stand_next (l : List Cls) (c : Int) (k : Nat) (f : List Int) (y : Nat) (hk : k < f.length) (hkl : k ≤ l.length) (hy : f[k] = (y : Int)) (hyl : y < l.length) (h : Stand l c (k + 1) f) : Stand l c (k + 2) (addL l.length l[y].pars.l f) := by
  rcases h with ⟨h, _⟩ | ⟨k', hk', h⟩
  · omega
  · obtain rfl : k' = k := by omega
    refine .inr ⟨k' + 1, rfl, ?_⟩
    obtain ⟨m, hm⟩ : ∃ m, l.length + 1 - k' = m + 1 := ⟨l.length - k', by omega⟩
    rw [hm, ancLoop_step l m k' f y hk hy hyl] at h
    rw [show l.length + 1 - (k' + 1) = m by omega]
    exact h
theorem stand_end (l : List Cls) (c : Int) (f : List Int) (h : Stand l c (f.length + 1) f) : f = ancFin l c := by
  rcases h with ⟨h, _⟩ | ⟨k', hk', h⟩
  · omega
  · obtain rfl : k' = f.length := by omega
    rw [ancLoop_end] at h
    exact h
/-- A row in the midst of a block, as a slice of ints. -/
theorem mid_slice {W : World} {base : Nat} {v : Value} {l : List Int} (h : ownsMid W base 3 v l.length (l.map I)) (hb : l.length * 8 ≤ 140737488355328) (hw : ∀ x ∈ l, wf x) :
    ∃ s : Sl Int, s.l = l ∧ v = s.v ∧ IntsL (inW W) W s := by
  have hc := h
  obtain ⟨_, g, o, cap, cur, rfl, _, hgb, hcap, _⟩ := h
  refine ⟨⟨some ⟨g, o, none⟩, cap, l⟩, rfl, rfl, ⟨hcap, hb, .inr ⟨g, o, rfl, (Array.getElem?_eq_some_iff.1 hgb).1, fun i hi j hj => ?_⟩⟩, hw⟩
  have hi' : i < l.length := hi
  obtain rfl : j = 0 := by simpa using hj
  rw [Nat.add_zero, Nat.mul_one, hc.cellAt i hi', List.getElem?_map, List.getElem?_eq_getElem hi']
  rfl
theorem mid_on {W W' : World} {base n : Nat} {e : TypeId} {v : Value} {xs : List Value} (h : ownsMid W base e v n xs) (hb : Below W.heap.size W W') : ownsMid W' base e v n xs :=
  ⟨h.1, by obtain ⟨_, g, o, cap, cur, a, b, c, d⟩ := h; exact ⟨g, o, cap, cur, a, b, (hb.block g (Array.getElem?_eq_some_iff.1 c).1).trans c, d⟩⟩
theorem mid_made (w : World) (cs : Array Value) (e : TypeId) (base : Nat) (hb : base ≤ w.heap.size) (hm : cs.size ≤ maxLen) : ownsMid (w.alloc (.cells cs e)) base e (.slice (some ⟨w.heap.size, 0, none⟩) cs.size cs.size) cs.size cs.toList :=
  ⟨by simp, w.heap.size, 0, cs.size, cs, rfl, hb, heap_alloc_new w _, Nat.le_refl _, hm, (by simp), by rw [List.drop_zero, ← Array.length_toList, List.take_length]⟩
theorem good_wf {n : Nat} {l s : List Int} (h : Good n l s) (hn : n ≤ 140737488355328) : ∀ x ∈ l, wf x := fun x hx => by
  have := h.inr x hx
  unfold inM at this
  simp at this
  exact WalkArith.wf_i64 (by omega)
theorem good_among {n : Nat} {l s : List Int} (x : Int) : amongM l x = l.contains x := by
  rw [Bool.eq_iff_iff, amongM_mem, List.contains_iff_mem]
end Go.Proofs.YtfbaikijnjafbaaGreatDoor
