/- Rule 5 of Check: the ancestors of a class. Conditions: the tables at T. -/
import Derived.Test.YtfbaikijnjafbaaGreatDoorSp
namespace Go.Proofs.YtfbaikijnjafbaaGreatDoor
set_option linter.unusedSimpArgs false
set_option linter.unusedVariables false
open Go.RowKit
set_option maxRecDepth 100000

theorem contains16_any {ok : Nat → Prop} (a : Option Addr) (cap : Nat) (l : List Int) (x : Int) (w : World) (hs : IntsL ok w ⟨a, cap, l⟩) : Calls Tryz.prog 104 #[.slice a l.length cap, I x] w fun e w' => e = .returned (.bool (l.contains x)) ∧ w = w' := by
  refine Calls.mono (R := fun e w' => e = .returned (.bool (l.contains x)) ∧ w' = w) ?_ (fun e w' h => ⟨h.1, h.2.symm⟩)
  rcases hs.1.2.2 with h | ⟨b, o, h1, _, h3⟩
  · obtain rfl : l = [] := h
    exact Tryz.slices_Contains_int_empty a cap x w
  · dsimp only at h1
    subst h1
    have hl : l.length ≤ 140737488355328 := by have h1 := hs.1.1; have h2 := hs.1.2.1; dsimp only at h1 h2; omega
    have := Tryz.slices_Contains_int b o l.length cap l x w (Nat.le_refl _) (by omega) (fun j hj => by
      have := h3 j hj 0 (by simp)
      rw [Nat.mul_one, Nat.add_zero] at this
      rw [this, List.getD_eq_getElem?_getD, List.getElem?_eq_getElem hj]
      rfl)
    rwa [List.take_length] at this

theorem addL_in (n : Nat) : ∀ (t : List Ty) (l : List Int), (∀ x ∈ l, inM x n = true) → ∀ x ∈ addL n t l, inM x n = true
  | [], _, h => h
  | y :: r, l, h => by
    rw [addL]
    refine addL_in n r _ ?_
    split
    · rename_i hc
      intro x hx
      rcases List.mem_append.1 hx with hx | hx
      · exact h x hx
      · have : x = y.s := by simpa using hx
        subst this
        simp at hc
        exact hc.2.1
    · exact h
theorem ancLoop_in (cl : List Cls) : ∀ (f k : Nat) (l : List Int), (∀ x ∈ l, inM x cl.length = true) → ∀ x ∈ ancLoop cl f k l, inM x cl.length = true
  | 0, _, _, h => h
  | f + 1, k, l, h => by
    rw [ancLoop]
    split
    · exact h
    · split
      · exact h
      · exact ancLoop_in cl f _ _ (addL_in _ _ _ h)
theorem ancM_in (cl : List Cls) (c : Int) : ∀ x ∈ ancM cl c, inM x cl.length = true := by
  unfold ancM
  split
  · split
    · intro x hx; cases hx
    · intro x hx
      exact ancLoop_in _ _ _ _ (addL_in _ _ _ (fun x hx => by cases hx)) x (List.mem_mergeSort.1 hx)
  · intro x hx; cases hx

def caseOf (P : Prg) (j : Int) : Bool := match P.cls.l[j.toNat]? with | some c => hasB c.flags 32 | none => false
def ancestryM (P : Prg) (i : Nat) (c : Cls) : Int :=
  if (ancM P.cls.l i).contains (i : Int) = true then 7
  else if hasB c.flags 32 = true then (if (ancM P.cls.l i).any (caseOf P) = true then 15 else 0) else 0

set_option maxHeartbeats 1600000 in
theorem ancestry_any (P : Prg) (T : Nat) (i : Nat) (w : World) (h : TL w T P) (hi : i < P.cls.l.length) : Calls Tryz.prog 64 #[ptr T, I i] w (Bof w (I (ancestryM P i P.cls.l[i]))) := by
  obtain ⟨c0, c1, c2, c3, c4, c5⟩ := h.cells
  have HAN := Lib.hid (anc14_any P i w h.prg (fun k hk => Nat.lt_trans hk h.lt))
  rw [prg_agg] at HAN
  have HTL : Hid (∀ W, Below w.heap.size w W → TL W T P) := Lib.hid fun W hW => h.below hW
  have HIN := Lib.hid (ancM_in P.cls.l i)
  have hii : ((i : Int) < (P.cls.l.length : Int)) := by omega
  have hL : P.cls.l.length ≤ 140737488355328 := by have h1 := h.prg.cls.1; have h2 := h.prg.cls.2.1; omega
  have HBI := Lib.hid hL
  generalize hres : ancestryM P i P.cls.l[i] = res
  unfold ancestryM at hres
  have HR := Lib.hid hres
  unfold Bof
  obtain ⟨b, o, ha, _, _⟩ := sl_at h.prg.cls (by omega)
  have HCL : Hid (∀ W, Below w.heap.size w W → ∀ y (hy : y < P.cls.l.length), CellsIn W b (o + y * 13) P.cls.l[y].cells) := Lib.hid fun W hW y hy => by
    obtain ⟨b', o', ha', _, hcs⟩ := sl_at (HTL.out W hW).prg.cls (by omega)
    rw [ha] at ha'
    obtain ⟨rfl, rfl⟩ : b = b' ∧ o = o' := by simpa using ha'
    exact hcs y hy
  rw [ha] at HAN c0
  clear h hres
  generalize ancM P.cls.l i = an at *
  go_enter Tryz.func64, Tryz.ntmps64
  go_upto_region 2 with (first | (go_at_call 17; refine HAN.out.mono ?_; rintro e w2 ⟨s, hs, hI, rfl, hb⟩; have HI := Lib.hid hI; have HB := Lib.hid hb; have HS := Lib.hid hs; clear hs hI hb))
  obtain ⟨sa, sc, sl⟩ := s
  obtain rfl : sl = an := HS.out
  unfold Sl.v
  dsimp only
  clear HAN c0 c1 c2 c3 c4 c5
  obtain ⟨c0, c1, c2, c3, c4, c5⟩ := (HTL.out w2 HB.out).cells
  rw [ha] at c0
  obtain ⟨t0, t1, t2, t3, t4, t5, t6, t7, t8, t9, t10, t11, t12⟩ := cls_cells0 (HCL.out w2 HB.out i hi)
  clear t0 t1 t3 t4 t5 t6 t7 t8 t9 t10 t11 t12
  cases e1 : sl.contains (i : Int) with
  | true =>
    obtain rfl : (7 : Int) = res := by have := HR.out; rw [e1, if_pos rfl] at this; exact this
    go_wp2_with (first | (go_at_call 104; refine (contains16_any _ _ _ _ _ HI.out).mono ?_; rintro e w3 ⟨rfl, rfl⟩; dsimp only; rw [e1]))
    go_ret
    exact ⟨rfl, HB.out⟩
  | false =>
    have HR2 := Lib.hid (show (if hasB P.cls.l[i].flags 32 = true then (if sl.any (caseOf P) = true then (15 : Int) else 0) else 0) = res by have := HR.out; rw [e1] at this; exact this)
    clear HR
    generalize P.cls.l[i].flags = fl at *
    cases e2 : hasB fl 32 with
    | false =>
      obtain rfl : (0 : Int) = res := by have := HR2.out; rw [e2] at this; exact this
      go_wp2_with (first | (go_at_call 104; refine (contains16_any _ _ _ _ _ HI.out).mono ?_; rintro e w3 ⟨rfl, rfl⟩; dsimp only; rw [e1]) | (go_at_call 102; refine (hasAny_any _ _ _).mono ?_; rintro e w2 ⟨rfl, rfl⟩; dsimp only; rw [e2]))
      go_ret
      exact ⟨rfl, HB.out⟩
    | true =>
      have HR3 := Lib.hid (show (if sl.any (caseOf P) = true then (15 : Int) else 0) = res by have := HR2.out; rw [e2] at this; exact this)
      clear HR2
      have HSL : Hid (sl.length ≤ 140737488355328) := Lib.hid (by have h1 := HI.out.1.1; have h2 := HI.out.1.2.1; dsimp only at h1 h2; omega)
      go_wp2_with (first | (go_at_call 104; refine (contains16_any _ _ _ _ _ HI.out).mono ?_; rintro e w3 ⟨rfl, rfl⟩; dsimp only; rw [e1]) | (go_at_call 102; refine (hasAny_any _ _ _).mono ?_; rintro e w2 ⟨rfl, rfl⟩; dsimp only; rw [e2]))
      go_loopg [29] (sl.length + 1) (fun n v wx => ∃ k : Nat, k ≤ sl.length ∧ v = .int .i64 k ∧ Hid (n = sl.length + 1 - k) ∧ Hid ((if (sl.drop k).any (caseOf P) = true then (15 : Int) else 0) = res) ∧ wx = w2)
      case atStart => exact ⟨0, by omega, rfl, rfl, HR3.out, rfl⟩
      case round =>
        obtain ⟨k, hk, rfl, HN, HD, rfl⟩ := hrel
        by_cases hlt : k < sl.length
        · have d2 : ((k : Int) < (sl.length : Int)) := by omega
          obtain ⟨b3, o3, ha3, _, hcs3⟩ := sl_at HI.out.1 (by show 0 < sl.length; omega)
          dsimp only at ha3
          subst ha3
          have ht : wr.cell? ⟨b3, o3 + k, none⟩ = some (I sl[k]) := by have := hcs3 k hlt 0 (by simp); simpa using this
          obtain ⟨y, hy, hyn, hyl⟩ := inM_at (l := P.cls.l) (HIN.out _ (List.getElem_mem hlt))
          have HD2 : Hid ((if (caseOf P sl[k] || (sl.drop (k + 1)).any (caseOf P)) = true then (15 : Int) else 0) = res) := by have := HD.out; rw [List.drop_eq_getElem_cons hlt, List.any_cons] at this; exact this
          have HCO : Hid (caseOf P sl[k] = hasB P.cls.l[y].flags 32) := Lib.hid (by unfold caseOf; rw [hyn, List.getElem?_eq_getElem hyl])
          rw [hy] at ht HD2 HCO
          have dy : ((y : Int) < (P.cls.l.length : Int)) := by omega
          have hbi := HBI.out
          obtain ⟨t0, t1, u2, t3, t4, t5, t6, t7, t8, t9, t10, t11, t12⟩ := cls_cells0 (HCL.out wr HB.out y hyl)
          clear t0 t1 t3 t4 t5 t6 t7 t8 t9 t10 t11 t12 hcs3 HD hy hyn
          generalize P.cls.l[y].flags = gl at *
          have hsl := HSL.out
          cases e3 : hasB gl 32 with
          | true =>
            obtain rfl : (15 : Int) = res := by have := HD2.out; rw [HCO.out, e3] at this; exact this
            go_wp2_with (first | (go_at_call 102; refine (hasAny_any _ _ _).mono ?_; rintro e w2 ⟨rfl, rfl⟩; dsimp only; rw [e3]))
            go_ret
            exact ⟨rfl, HB.out⟩
          | false =>
            have HD3 : Hid ((if (sl.drop (k + 1)).any (caseOf P) = true then (15 : Int) else 0) = res) := by have := HD2.out; rw [HCO.out, e3, Bool.false_or] at this; exact this
            go_wp2_with (first | (go_at_call 102; refine (hasAny_any _ _ _).mono ?_; rintro e w2 ⟨rfl, rfl⟩; dsimp only; rw [e3]))
            go_roundg (sl.length + 1 - (k + 1))
            case measure => have := HN.out; omega
            case rel => exact ⟨k + 1, by omega, by first | go_num | (rw [IntWalk.wrap64_in _ (by omega)]; go_num), rfl, HD3, rfl⟩
        · obtain rfl : k = sl.length := by omega
          obtain rfl : (0 : Int) = res := by have := HD.out; rw [List.drop_length] at this; exact this
          go_wp2_with fail
          go_ret
          exact ⟨rfl, HB.out⟩
end Go.Proofs.YtfbaikijnjafbaaGreatDoor
