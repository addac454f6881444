/- The closure of Ancestors: it adds the classes of a class's parents. Conditions: what each theorem names. -/
import Derived.Test.YtfbaikijnjafbaaGreatDoorSj
import Derived.Test.YtfbaikijnjafbaaGreatDoorSd
import Derived.OwnWalk
import Derived.Maps.AppendAt
import Derived.RangeFuncBox
namespace Go.Proofs.YtfbaikijnjafbaaGreatDoor
set_option linter.unusedSimpArgs false
set_option linter.unusedVariables false
open Go.RowKit Go.Maps
set_option maxRecDepth 100000

/-- What Ancestors holds: the tables at q, a box of their address, a box of the list, the set, a box of the set. -/
structure Anc (W : World) (q : Nat) (P : Prg) (l s : List Int) : Prop where
  tl : TL W q P
  bt : Boxed W (q + 1) 76 (ptr q)
  bm : Boxed W (q + 4) 90 (.map (some (q + 3)))
  bl : ∃ v, Boxed W (q + 2) 44 v ∧ W.ownsRow (q + 2) 3 1 v l.length (l.map I)
  set : SetAt W 3 (q + 3) s.length (lits s)
theorem Anc.lt {W : World} {q : Nat} {P : Prg} {l s : List Int} (h : Anc W q P l s) : q + 5 ≤ W.heap.size := h.bm.lt
theorem SetAt.isMap {W : World} {k : TypeId} {b n : Nat} {S : List Lit} (h : SetAt W k b n S) : ∃ es c, W.heap[b]? = some (.map es c) := by
  obtain ⟨D, ⟨es, c, h, _⟩, _⟩ := h
  exact ⟨es, c, h⟩
theorem row_not_map {W : World} {base k n : Nat} {v : Value} {xs : List Value} {es : Array MapEntry} {c : Nat} (h : W.ownsRow base 3 1 v n xs) (hm : W.heap[k]? = some (.map es c)) : some k ≠ v.ownBlock := by
  rcases h.2 with ⟨rfl, _⟩ | ⟨g, cap, cur, rfl, _, hgb, _⟩
  · simp [Value.ownBlock]
  · intro e
    have : k = g := by simpa [Value.ownBlock] using e
    subst this
    rw [hgb] at hm
    cases hm
theorem Anc.grown {W W' : World} {q : Nat} {P : Prg} {l s : List Int} (h : Anc W q P l s) (hg : W.grownBy W' none) : Anc W' q P l s := by
  have hb : ∀ k, k < q + 5 → W'.heap[k]? = W.heap[k]? := fun k hk => hg.block k (Nat.lt_of_lt_of_le hk h.lt) (by simp)
  obtain ⟨v, h1, h2⟩ := h.bl
  exact ⟨h.tl.move fun k hk => hb k (by omega), h.bt.kept hg (by simp), h.bm.kept hg (by simp), ⟨v, h1.kept hg (by simp), h2.kept hg (by cases hv : v.ownBlock <;> simp)⟩, h.set.kept (hb _ (by omega))⟩
theorem Anc.alloc {W : World} {q : Nat} {P : Prg} {l s : List Int} (h : Anc W q P l s) (o : Obj) : Anc (W.alloc o) q P l s := h.grown (World.grownBy_alloc W o none)
theorem Anc.drew {W : World} {q : Nat} {P : Prg} {l s : List Int} (h : Anc W q P l s) : Anc W.drew q P l s := ⟨⟨h.tl.box, h.tl.prg.same fun _ _ => rfl⟩, h.bt, h.bm, h.bl, h.set⟩
/-- The set is turned. -/
theorem Anc.stored {W W' : World} {q : Nat} {P : Prg} {l s : List Int} {x : Int} (h : Anc W q P l s) (hs : SetAt W' 3 (q + 3) (s.length + 1) (lits (x :: s))) (hg : W.grownBy W' (some (q + 3))) : Anc W' q P l (x :: s) := by
  have hb : ∀ k, k < q + 5 → k ≠ q + 3 → W'.heap[k]? = W.heap[k]? := fun k hk hn => hg.block k (Nat.lt_of_lt_of_le hk h.lt) (by simpa using hn)
  obtain ⟨v, h1, h2⟩ := h.bl
  obtain ⟨es, c, hm⟩ := h.set.isMap
  exact ⟨h.tl.move fun k hk => hb k (by omega) (by omega), h.bt.kept hg (by simp), h.bm.kept hg (by simp), ⟨v, h1.kept hg (by simp), h2.kept hg (.inr (row_not_map h2 hm).symm)⟩, hs⟩
/-- The list is turned: append, and the store of its slice. -/
theorem Anc.appended {W w1 : World} {q : Nat} {P : Prg} {l s : List Int} {x : Int} {tmp : Obj} {v v' : Value} (h : Anc W q P l s) (hv : Boxed W (q + 2) 44 v) (hrow : W.ownsRow (q + 2) 3 1 v l.length (l.map I))
    (hown' : w1.ownsRow (q + 2) 3 1 v' (l.length + 1) (l.map I ++ [I x])) (hgrow : (W.alloc tmp).grownBy w1 v.ownBlock) :
    Boxed w1 (q + 2) 44 v ∧ Anc (w1.setCell ⟨q + 2, 0, none⟩ v') q P (l ++ [x]) s ∧ Below (q + 2) W (w1.setCell ⟨q + 2, 0, none⟩ v') := by
  obtain ⟨a1, a2, a3, _, a5⟩ := hv.appended (by decide) hrow (by have := h.lt; omega) (Nat.le_refl _) hown' hgrow
  obtain ⟨es, c, hm⟩ := h.set.isMap
  refine ⟨a1, ⟨h.tl.move fun k hk => a5.block k (by omega), (a5.block _ (by omega)).trans h.bt, ?_, ⟨v', a2, ?_⟩, ?_⟩, a5⟩
  · exact (Below.heap_setCell _ _ _ _ (by show _ ≠ q + 2; omega)).trans ((h.bm.alloc tmp).kept hgrow (h.bm.not_row (by decide) hrow))
  · have : (l ++ [x]).length = l.length + 1 := by simp
    rw [this, List.map_append]
    exact a3
  · have h1 := h.set.kept (w' := W.alloc tmp) (Below.heap_alloc _ _ _ (by have := h.lt; omega))
    have h2 := h1.kept (w' := w1) (hgrow.block _ (by have := h.lt; simp; omega) (row_not_map hrow hm))
    exact h2.kept (Below.heap_setCell _ _ _ _ (by show _ ≠ q + 2; omega))

def addL (n : Nat) : List Ty → List Int → List Int
  | [], l => l
  | x :: r, l => addL n r (if (x.k == 10 && (inM x.s n && !l.contains x.s)) = true then l ++ [x.s] else l)
/-- The list has no number twice, only numbers below n; the set has the same. -/
structure Good (n : Nat) (l s : List Int) : Prop where
  nd : l.Nodup
  inr : ∀ x ∈ l, inM x n = true
  eq : ∀ y, s.contains y = l.contains y
  len : s.length = l.length
theorem nodup_le : ∀ (n : Nat) (l : List Int), l.Nodup → (∀ x ∈ l, inM x n = true) → l.length ≤ n
  | 0, l, _, h => by
    cases l with
    | nil => simp
    | cons x l => have := h x (by simp); unfold inM at this; simp at this; omega
  | n + 1, l, hn, h => by
    have h1 := nodup_le n (l.erase (n : Int)) (hn.erase _) (fun x hx => by
      have hx1 := h x (List.mem_of_mem_erase hx)
      have hx2 : x ≠ (n : Int) := fun e => by subst e; exact (List.Nodup.not_mem_erase hn) hx
      unfold inM at hx1 ⊢
      simp at hx1 ⊢
      omega)
    by_cases hm : (n : Int) ∈ l
    · rw [List.length_erase_of_mem hm] at h1; omega
    · rw [List.erase_of_not_mem hm] at h1; omega
theorem Good.add {n : Nat} {l s : List Int} {x : Int} (h : Good n l s) (hx : inM x n = true) (hc : l.contains x = false) : Good n (l ++ [x]) (x :: s) := by
  have hne : x ∉ l := fun hm => by rw [List.contains_iff_mem.2 hm] at hc; cases hc
  refine ⟨?_, ?_, ?_, by simp [h.len]⟩
  · rw [List.nodup_append]
    exact ⟨h.nd, by simp, fun a ha b hb e => by simp at hb; subst hb; subst e; exact hne ha⟩
  · intro y hy
    rcases List.mem_append.1 hy with hy | hy
    · exact h.inr y hy
    · simp at hy; subst hy; exact hx
  · intro y
    have h1 := h.eq y
    rw [Bool.eq_iff_iff, List.contains_iff_mem, List.contains_iff_mem] at h1 ⊢
    simp only [List.mem_cons, List.mem_append, List.not_mem_nil, or_false]
    rw [h1]
    exact Or.comm
end Go.Proofs.YtfbaikijnjafbaaGreatDoor
