/- Contracts of Trees, Locals and the callback over type members: each ends with yes or no, and turns nothing but the number that it counts down. -/
import Derived.Test.YtfbaikijnjafbaaGreatDoorTr
namespace Go.Proofs.YtfbaikijnjafbaaGreatDoor
set_option linter.unusedSimpArgs false
set_option linter.unusedVariables false
open Go.RowKit
set_option maxRecDepth 100000

theorem trees_any : ∀ (f : Nat) (g : Nat) (s : Sl Tre) (deep : Nat) (w : World) (n : Int), 201 = deep + f → TresL (okg g w) w s → w.cell? ⟨g, 0, none⟩ = some (I n) → w.frozen? ⟨g, 0, none⟩ = false →
    Calls Tryz.prog 26 #[s.v, I (deep : Int), .pointer (some ⟨g, 0, none⟩)] w (Ans g w (tresM f s.l n)) := by
  intro f
  induction f with
  | zero =>
    intro g s deep w n hfu hs hc hf
    have HK := Lib.hid (Kp.refl hc hf)
    have d1 : decide ((deep : Int) ≤ 200) = false := decide_eq_false (by omega)
    have hltg := HK.out.lt
    clear hs
    unfold tresM
    go_enter Tryz.func26, Tryz.ntmps26
    go_wp2_with fail
    go_ret
    exact Ans.mk ((HK.out.alloc _).alloc _)
  | succ f ih =>
    intro g s deep w n hfu hs hc hf
    have HK := Lib.hid (Kp.refl hc hf)
    have HS := Lib.hid hs
    have IH := Lib.hid ih
    clear hs ih
    have hltg := HK.out.lt
    have d1 : decide ((deep : Int) ≤ 200) = true := decide_eq_true (by omega)
    have hb := two_boxes w (I deep) (.pointer (some ⟨g, 0, none⟩)) 3 56
    have HW := Lib.hid ((HK.out.alloc (.cells #[I deep] 3)).alloc (.cells #[.pointer (some ⟨g, 0, none⟩)] 56))
    have HC := Lib.hid (show ∀ (w1 : World) (T : Tre) (m : Int), Kp g ((w.alloc (.cells #[I deep] 3)).alloc (.cells #[.pointer (some ⟨g, 0, none⟩)] 56)) w1 m → TreL (okg g w1) w1 T →
        Calls Tryz.prog 57 (#[.agg T.cells.toArray] ++ #[.pointer (some ⟨w.heap.size + 1, 0, none⟩), .pointer (some ⟨w.heap.size, 0, none⟩)]) w1 (Ans g w1 (cbTre (tresM f) T m)) from fun w1 T m hk hT =>
      cb61_any g T (w.heap.size + 1) w.heap.size deep w1 m (tresM f) ((hk.cellAt (by simp) (by omega) 0).trans hb.2) ((hk.cellAt (by simp; omega) (by omega) 0).trans hb.1) (by omega) (by omega) (by omega) hT hk.cell hk.frozen
        (fun w2 s m hs hc hf => IH.out g s (deep + 1) w2 m (by omega) hs hc hf))
    clear hb
    have HC2 := Lib.hid (con60_any g s _ _ _ _ (HS.out.kp HW.out) HW.out.cell HW.out.frozen HC.out)
    unfold tresM
    generalize anyM (cbTre (tresM f)) s.l n = res at *
    go_enter Tryz.func26, Tryz.ntmps26
    go_wp2_with (go_at_call 56; refine HC2.out.mono ?_; rintro e w' ⟨rfl, hk⟩)
    go_ret
    exact Ans.mk (HW.out.trans hk)

/-- A slice of one type, of two types, of one tree, in a new block. -/
theorem one_ty {g N : Nat} {w : World} {T : Ty} (hN : w.heap[N]? = some (.cells T.cells.toArray 60 (0, 0))) (hg : N ≠ g) (hT : TyL (okg g w) w T) : TysL (okg g w) w ⟨some ⟨N, 0, none⟩, 1, [T]⟩ := by
  refine ⟨⟨by simp, by simp, .inr ⟨N, 0, rfl, ⟨(Array.getElem?_eq_some_iff.1 hN).1, hg⟩, fun i hi => ?_⟩⟩, fun c hc => ?_⟩
  · obtain rfl : i = 0 := by simpa using hi
    intro j _
    rw [cell_of_row w N _ _ _ _ hN]
    simp
  · obtain rfl : c = T := by simpa using hc
    exact hT
theorem two_ty {g N : Nat} {w : World} {T U : Ty} (hN : w.heap[N]? = some (.cells (T.cells ++ U.cells).toArray 60 (0, 0))) (hg : N ≠ g) (hT : TyL (okg g w) w T) (hU : TyL (okg g w) w U) : TysL (okg g w) w ⟨some ⟨N, 0, none⟩, 2, [T, U]⟩ := by
  refine ⟨⟨by simp, by simp, .inr ⟨N, 0, rfl, ⟨(Array.getElem?_eq_some_iff.1 hN).1, hg⟩, fun i hi => ?_⟩⟩, fun c hc => ?_⟩
  · intro j hj
    have hj5 : j < 5 := hj
    rw [cell_of_row w N _ _ _ _ hN]
    have hi' : i < 2 := hi
    match i, hi' with
    | 0, _ => simp [List.getElem?_append_left (show j < T.cells.length by rw [ty_len]; exact hj5)]
    | 1, _ =>
      simp only [Nat.zero_add, Nat.one_mul, List.getElem?_toArray, List.getElem_cons_succ, List.getElem_cons_zero]
      rw [List.getElem?_append_right (by rw [ty_len]; omega), ty_len]
      congr 1
      omega
  · rcases List.mem_cons.1 hc with rfl | hc
    · exact hT
    · obtain rfl : c = U := by simpa using hc
      exact hU
theorem one_tre {g N : Nat} {w : World} {T : Tre} (hN : w.heap[N]? = some (.cells T.cells.toArray 66 (0, 0))) (hg : N ≠ g) (hT : TreL (okg g w) w T) : TresL (okg g w) w ⟨some ⟨N, 0, none⟩, 1, [T]⟩ := by
  refine ⟨⟨by simp, by simp, .inr ⟨N, 0, rfl, ⟨(Array.getElem?_eq_some_iff.1 hN).1, hg⟩, fun i hi => ?_⟩⟩, fun c hc => ?_⟩
  · obtain rfl : i = 0 := by simpa using hi
    intro j _
    rw [cell_of_row w N _ _ _ _ hN]
    simp
  · obtain rfl : c = T := by simpa using hc
    exact hT

def cbLoc (T : Loc) (n : Int) : Bool × Int := if 100 < T.nm.size then (true, n) else (!(tysM 70 [T.ty] n).1, (tysM 70 [T.ty] n).2)
theorem LocL.kp {g : Nat} {a w : World} {m : Int} {T : Loc} (h : LocL (okg g a) a T) (k : Kp g a w m) : LocL (okg g w) w T := (h.same fun i hi => k.block i hi.1 hi.2).imp fun _ hi => ⟨Nat.lt_of_lt_of_le hi.1 k.size, hi.2⟩

/-- What Locals$1 answers for one local. -/
theorem cb63_any (g : Nat) (T : Loc) (n1 : Nat) (w : World) (n : Int) (h1 : w.cell? ⟨n1, 0, none⟩ = some (.pointer (some ⟨g, 0, none⟩))) (hn1 : n1 ≠ g)
    (hT : LocL (okg g w) w T) (hc : w.cell? ⟨g, 0, none⟩ = some (I n)) (hf : w.frozen? ⟨g, 0, none⟩ = false) :
    Calls Tryz.prog 59 #[.agg T.cells.toArray, .pointer (some ⟨n1, 0, none⟩)] w (Ans g w (cbLoc T n)) := by
  have HK := Lib.hid (Kp.refl hc hf)
  have HT := Lib.hid hT
  clear hT
  have hlt1 := (cell_spot h1).2
  have hltg := (cell_spot hc).2
  dsimp only at hlt1 hltg
  have HA := Lib.hid ((HK.out.alloc (.cells T.cells.toArray 120)).alloc (.cells T.ty.cells.toArray 60))
  have hN : ((w.alloc (.cells T.cells.toArray 120)).alloc (.cells T.ty.cells.toArray 60)).heap[w.heap.size + 1]? = some (.cells T.ty.cells.toArray 60 (0, 0)) := by
    have := heap_alloc_new (w.alloc (.cells T.cells.toArray 120)) (.cells T.ty.cells.toArray 60)
    simpa using this
  have HC := Lib.hid (types_any 70 g _ 1 _ n (by omega) (one_ty hN (by omega) ((HT.out.kp HA.out).2.2)) HA.out.cell HA.out.frozen)
  clear hN
  generalize hres : cbLoc T n = res
  have HR := Lib.hid hres
  clear hres
  by_cases c1 : 100 < T.nm.size
  · obtain rfl : (true, n) = res := by have := HR.out; rw [cbLoc, if_pos c1] at this; exact this
    have d1 : decide ((100 : Int) < (T.nm.size : Int)) = true := decide_eq_true (by omega)
    clear c1 HR
    unfold Loc.cells
    go_enter Tryz.func59, Tryz.ntmps59
    go_wp2_with fail
    go_ret
    exact Ans.mk (HK.out.alloc _)
  · have HR2 := Lib.hid (show (!(tysM 70 [T.ty] n).1, (tysM 70 [T.ty] n).2) = res by have := HR.out; rw [cbLoc, if_neg c1] at this; exact this)
    have d1 : decide ((100 : Int) < (T.nm.size : Int)) = false := decide_eq_false (by omega)
    clear c1 HR
    dsimp only at HC
    generalize tysM 70 [T.ty] n = q at *
    unfold Loc.cells
    go_enter Tryz.func59, Tryz.ntmps59
    go_wp2_with (go_at_call 25; refine HC.out.mono ?_; rintro e w' ⟨rfl, hk⟩)
    go_ret
    have h := HR2.out
    subst h
    exact Ans.mk (HA.out.trans hk)

def locsM (l : List Loc) (n : Int) : Bool × Int := if l.length ≤ 220 then (!(anyM cbLoc l n).1, (anyM cbLoc l n).2) else (false, n)
theorem locals_any (g : Nat) (s : Sl Loc) (w : World) (n : Int) (hs : SlAt (okg g w) w 7 88 Loc.cells s ∧ ∀ x ∈ s.l, LocL (okg g w) w x) (hc : w.cell? ⟨g, 0, none⟩ = some (I n)) (hf : w.frozen? ⟨g, 0, none⟩ = false) :
    Calls Tryz.prog 27 #[s.v, .pointer (some ⟨g, 0, none⟩)] w (Ans g w (locsM s.l n)) := by
  have HK := Lib.hid (Kp.refl hc hf)
  have hltg := HK.out.lt
  have hb : (w.alloc (.cells #[.pointer (some ⟨g, 0, none⟩)] 56)).cell? ⟨w.heap.size, 0, none⟩ = some (.pointer (some ⟨g, 0, none⟩)) := by
    rw [World.cell?_alloc_at _ _ _ _ rfl]; rfl
  have HW := Lib.hid (HK.out.alloc (.cells #[.pointer (some ⟨g, 0, none⟩)] 56))
  have HS : Hid (SlAt (okg g (w.alloc (.cells #[.pointer (some ⟨g, 0, none⟩)] 56))) (w.alloc (.cells #[.pointer (some ⟨g, 0, none⟩)] 56)) 7 88 Loc.cells s ∧ ∀ x ∈ s.l, LocL (okg g (w.alloc (.cells #[.pointer (some ⟨g, 0, none⟩)] 56))) (w.alloc (.cells #[.pointer (some ⟨g, 0, none⟩)] 56)) x) :=
    ⟨(hs.1.same fun i hi => HW.out.block i hi.1 hi.2).imp fun _ hi => ⟨Nat.lt_of_lt_of_le hi.1 HW.out.size, hi.2⟩, fun x hx => (hs.2 x hx).kp HW.out⟩
  have HC := Lib.hid (show ∀ (w1 : World) (T : Loc) (m : Int), Kp g (w.alloc (.cells #[.pointer (some ⟨g, 0, none⟩)] 56)) w1 m → LocL (okg g w1) w1 T →
      Calls Tryz.prog 59 (#[.agg T.cells.toArray] ++ #[.pointer (some ⟨w.heap.size, 0, none⟩)]) w1 (Ans g w1 (cbLoc T m)) from fun w1 T m hk hT =>
    cb63_any g T w.heap.size w1 m ((hk.cellAt (by simp) (by omega) 0).trans hb) (by omega) hT hk.cell hk.frozen)
  have HC2 := Lib.hid (con62_any g s _ _ _ _ HS.out HW.out.cell HW.out.frozen HC.out)
  clear hb hs HS
  generalize hres : locsM s.l n = res
  have HR := Lib.hid hres
  clear hres
  obtain ⟨a, cap, l⟩ := s
  by_cases c1 : l.length ≤ 220
  · have HR2 := Lib.hid (show (!(anyM cbLoc l n).1, (anyM cbLoc l n).2) = res by have := HR.out; rw [locsM, if_pos c1] at this; exact this)
    have d1 : decide ((l.length : Int) ≤ 220) = true := decide_eq_true (by omega)
    clear c1 HR
    dsimp only at HC2
    generalize anyM cbLoc l n = q at *
    unfold Sl.v at *
    dsimp only at *
    go_enter Tryz.func27, Tryz.ntmps27
    go_wp2_with (go_at_call 58; refine HC2.out.mono ?_; rintro e w' ⟨rfl, hk⟩)
    go_ret
    have h := HR2.out
    subst h
    exact Ans.mk (HW.out.trans hk)
  · obtain rfl : (false, n) = res := by have := HR.out; rw [locsM, if_neg c1] at this; exact this
    have d1 : decide ((l.length : Int) ≤ 220) = false := decide_eq_false (by omega)
    clear c1 HR HC2
    unfold Sl.v
    dsimp only
    go_enter Tryz.func27, Tryz.ntmps27
    go_wp2_with fail
    go_ret
    exact Ans.mk HW.out

def cbTym (T : Tym) (n : Int) : Bool × Int := if 100 < T.nm.size then (true, n) else (!(tysM 70 [T.lo, T.hi] n).1, (tysM 70 [T.lo, T.hi] n).2)
/-- What Few$1 answers for one type member. -/
theorem cb39_any (g : Nat) (T : Tym) (w : World) (n : Int)
    (hT : TymL (okg g w) w T) (hc : w.cell? ⟨g, 0, none⟩ = some (I n)) (hf : w.frozen? ⟨g, 0, none⟩ = false) :
    Calls Tryz.prog 29 #[.agg T.cells.toArray, .pointer (some ⟨g, 0, none⟩)] w (Ans g w (cbTym T n)) := by
  have HK := Lib.hid (Kp.refl hc hf)
  have HT := Lib.hid hT
  clear hT
  have hltg := (cell_spot hc).2
  dsimp only at hltg
  have HA := Lib.hid ((HK.out.alloc (.cells T.cells.toArray 73)).alloc (.cells (T.lo.cells ++ T.hi.cells).toArray 60))
  have hN : ((w.alloc (.cells T.cells.toArray 73)).alloc (.cells (T.lo.cells ++ T.hi.cells).toArray 60)).heap[w.heap.size + 1]? = some (.cells (T.lo.cells ++ T.hi.cells).toArray 60 (0, 0)) := by
    have := heap_alloc_new (w.alloc (.cells T.cells.toArray 73)) (.cells (T.lo.cells ++ T.hi.cells).toArray 60)
    simpa using this
  have HC := Lib.hid (types_any 70 g _ 1 _ n (by omega) (two_ty hN (by omega) (HT.out.2.2.1.kp HA.out) (HT.out.2.2.2.kp HA.out)) HA.out.cell HA.out.frozen)
  clear hN
  generalize hres : cbTym T n = res
  have HR := Lib.hid hres
  clear hres
  by_cases c1 : 100 < T.nm.size
  · obtain rfl : (true, n) = res := by have := HR.out; rw [cbTym, if_pos c1] at this; exact this
    have d1 : decide ((100 : Int) < (T.nm.size : Int)) = true := decide_eq_true (by omega)
    clear c1 HR
    unfold Tym.cells
    go_enter Tryz.func29, Tryz.ntmps29
    go_wp2_with fail
    go_ret
    exact Ans.mk (HK.out.alloc _)
  · have HR2 := Lib.hid (show (!(tysM 70 [T.lo, T.hi] n).1, (tysM 70 [T.lo, T.hi] n).2) = res by have := HR.out; rw [cbTym, if_neg c1] at this; exact this)
    have d1 : decide ((100 : Int) < (T.nm.size : Int)) = false := decide_eq_false (by omega)
    clear c1 HR
    dsimp only at HC
    generalize tysM 70 [T.lo, T.hi] n = q at *
    unfold Tym.cells
    go_enter Tryz.func29, Tryz.ntmps29
    go_wp2_with (go_at_call 25; refine HC.out.mono ?_; rintro e w' ⟨rfl, hk⟩)
    go_ret
    have h := HR2.out
    subst h
    exact Ans.mk (HA.out.trans hk)
end Go.Proofs.YtfbaikijnjafbaaGreatDoor
