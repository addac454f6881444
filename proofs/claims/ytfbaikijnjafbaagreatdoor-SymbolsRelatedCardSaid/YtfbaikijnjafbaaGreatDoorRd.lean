/- What can be read of an argument, opened step by step: numbers, texts, pointers, slices, structs, with the bound on each slice. Plain lemmas, no condition. -/
import Derived.Deep.Slices
import Derived.Deep.Fields
import Derived.ChangeSame
import Derived.Lib.SmallJoins
import GoSem.ClaimJoined
import Derived.Test.YtfbaikijnjafbaaGreatDoorRows
namespace Go.Proofs.YtfbaikijnjafbaaGreatDoor
set_option linter.unusedSimpArgs false
set_option linter.unusedVariables false
open Go.ChangeShapes Go.WideShapes Go.Deep

section
variable {H : Type} {enc : TypeId × Value → H} {P : Program} {w : World} {n : Nat} {t e : TypeId} {cs : List Value}

/-- These cells of the type t can be read from memory, at this depth. -/
def Rd (enc : TypeId × Value → H) (P : Program) (w : World) (n : Nat) (t : TypeId) (cs : List Value) : Prop :=
  ∃ x, DataW.trod enc P w 0 (fun _ => true) true n t cs = some x ∧ ∀ y ∈ DataW.weights P t x.1, y ≤ reachBytes

theorem Rd.int {k : IntKind} (ht : P.underlying t = some (.int k)) (h : Rd enc P w n t cs) : ∃ i, cs = [.int k i] ∧ (Lit.int k i).wf = true := by
  obtain ⟨_, h, _⟩ := h
  obtain ⟨i, h1, _, h2⟩ := DataW.trod_int ht h
  exact ⟨i, h1, h2⟩

theorem Rd.bool (ht : P.underlying t = some .bool) (h : Rd enc P w n t cs) : ∃ b, cs = [.bool b] := by
  obtain ⟨_, h, _⟩ := h
  obtain ⟨i, h1, _⟩ := DataW.trod_bool ht h
  exact ⟨i, h1⟩

theorem Rd.string (ht : P.underlying t = some .string) (h : Rd enc P w n t cs) : ∃ s : ByteArray, cs = [.string s] ∧ s.size ≤ reachBytes := by
  obtain ⟨_, h, hw⟩ := h
  obtain ⟨i, h1, rfl, _⟩ := DataW.trod_string ht h
  exact ⟨i, h1, by have := hw _ (by simp only [DataW.weights]; exact List.mem_singleton.2 rfl); simpa using this⟩

theorem Rd.pointer (ht : P.underlying t = some (.pointer e)) (h : Rd enc P w n t cs) :
    cs = [.pointer none] ∨ ∃ a cs' m, n = m + 1 ∧ cs = [.pointer (some a)] ∧ cs'.length = P.cellsOf e ∧ (∀ j, j < P.cellsOf e → w.cell? (a.add j) = cs'[j]?) ∧ Rd enc P w m e cs' := by
  obtain ⟨_, h, hw⟩ := h
  rcases DataW.trod_pointer ht h with ⟨h, _⟩ | ⟨a, cs', y, m, hn, hp, rfl, hc, hr⟩
  · exact .inl h
  · obtain ⟨_, h1, h2⟩ := World.cells?_some hc
    exact .inr ⟨a, cs', m, hn, hp, h1, h2, y, hr, by simpa only [DataW.weights, ht] using hw⟩

theorem mem_weightsAll {P : Program} {e : TypeId} {l : List (DataW H)} {d : DataW H} {y : Nat} (hd : d ∈ l) (hy : y ∈ DataW.weights P e d) : y ∈ DataW.weightsAll P e l := by
  induction l with
  | nil => cases hd
  | cons a r ih =>
    simp only [DataW.weightsAll, List.mem_append]
    rcases List.mem_cons.1 hd with rfl | hd
    · exact .inl hy
    · exact .inr (ih hd)

theorem Rd.slice (ht : P.underlying t = some (.slice e)) (h : Rd enc P w n t cs) :
    cs = [.slice none 0 0] ∨ ∃ a len cap m, n = m + 1 ∧ cs = [.slice (some a) len cap] ∧ len ≤ cap ∧ cap * P.bytesOf e ≤ reachBytes ∧
      ∀ i, i < len → ∃ cs', cs'.length = P.cellsOf e ∧ (∀ j, j < P.cellsOf e → w.cell? ((a.add (i * P.cellsOf e)).add j) = cs'[j]?) ∧ Rd enc P w m e cs' := by
  obtain ⟨_, h, hw⟩ := h
  rcases DataW.trod_slice ht h with ⟨h, _⟩ | ⟨a, len, cap, elems, rest, m, hn, hcs, rfl, _, hl, _, hlen, hel, hsp, _⟩
  · exact .inl h
  · simp only [DataW.weights, ht] at hw
    have hr := (hsp rfl).1
    refine .inr ⟨a, len, cap, m, hn, hcs, hl, ?_, fun i hi => ?_⟩
    · have := hw _ (List.mem_cons.2 (.inl rfl))
      simp only [List.length_map] at this
      rwa [show elems.length + rest.length = cap by omega] at this
    · have h1 := hel i hi
      rw [List.getElem?_eq_getElem (by omega), Option.bind_eq_some_iff] at h1
      obtain ⟨cs', hc, hr'⟩ := h1
      obtain ⟨_, e1, e2⟩ := World.cells?_some hc
      exact ⟨cs', e1, e2, _, hr', fun y hy => hw y (List.mem_cons.2 (.inr (List.mem_append.2 (.inl (mem_weightsAll (List.mem_map.2 ⟨_, List.getElem_mem (by omega), rfl⟩) hy)))))⟩

theorem mem_weightsEach {P : Program} : ∀ {ts : List TypeId} {l : List (DataW H)} {i : Nat} {t : TypeId} {d : DataW H} {y : Nat} (_ : ts[i]? = some t) (_ : l[i]? = some d) (_ : y ∈ DataW.weights P t d), y ∈ DataW.weightsEach P ts l
  | [], _, _, _, _, _, h, _, _ => by simp at h
  | _ :: _, [], _, _, _, _, _, h, _ => by simp at h
  | _ :: ts, _ :: l, 0, _, _, _, h1, h2, hy => by
    simp only [List.getElem?_cons_zero, Option.some.injEq] at h1 h2
    subst h1 h2
    simp only [DataW.weightsEach, List.mem_append]
    exact .inl hy
  | _ :: ts, _ :: l, i + 1, _, _, _, h1, h2, hy => by
    simp only [List.getElem?_cons_succ] at h1 h2
    simp only [DataW.weightsEach, List.mem_append]
    exact .inr (mem_weightsEach h1 h2 hy)

theorem Rd.struct {fs : Array Field} (ht : P.underlying t = some (.struct fs)) (h : Rd enc P w n t cs) :
    cs.length = P.cellsOf t ∧ ∃ m, n = m + 1 ∧ ∀ (i : Nat) (f : Field), fs[i]? = some f → Rd enc P w m f.type ((cs.drop f.offset).take (P.cellsOf f.type)) := by
  obtain ⟨_, h, hw⟩ := h
  obtain ⟨xs, m, hn, rfl, h1, h2, h3⟩ := DataW.trod_struct ht h
  simp only [DataW.weights, ht] at hw
  refine ⟨h1, m, hn, fun i f hf => ?_⟩
  have hi : i < fs.size := (Array.getElem?_eq_some_iff.1 hf).1
  have := h3 i f hf
  rw [List.getElem?_eq_getElem (by omega)] at this
  refine ⟨_, this, fun y hy => hw y (mem_weightsEach (i := i) (t := f.type) (d := (xs[i]'(by omega)).1) ?_ ?_ hy)⟩
  · simp [hf]
  · simp [List.getElem?_eq_getElem (show i < xs.length by omega)]
end
end Go.Proofs.YtfbaikijnjafbaaGreatDoor
