/- Ancestors of package symbols. Conditions: what the theorem names. -/
import Derived.Test.YtfbaikijnjafbaaGreatDoorSo
import Derived.Test.YtfbaikijnjafbaaGreatDoorSh
import Derived.Sort.OwnSortedInts
import Derived.StillTailTactics
namespace Go.Proofs.YtfbaikijnjafbaaGreatDoor
set_option linter.unusedSimpArgs false
set_option linter.unusedVariables false
open Go.RowKit Go.Maps Go.Sort
set_option maxRecDepth 100000
attribute [local irreducible] wpStill

def ancLoop (l : List Cls) : Nat → Nat → List Int → List Int
  | 0, _, r => r
  | f + 1, k, r => match r[k]? with
    | none => r
    | some x => match l[x.toNat]? with
      | none => r
      | some c => ancLoop l f (k + 1) (addL l.length c.pars.l r)
def ancRaw (l : List Cls) (c : Cls) : List Int := ancLoop l (l.length + 1) 0 (addL l.length c.pars.l [])
def ancM (l : List Cls) (c : Int) : List Int := if inM c l.length = true then (match l[c.toNat]? with | none => [] | some k => (ancRaw l k).mergeSort fun x y => decide (x ≤ y)) else []
theorem addL_grows (n : Nat) : ∀ (t : List Ty) (l : List Int), l.length ≤ (addL n t l).length
  | [], _ => Nat.le_refl _
  | x :: r, l => by
    rw [addL]
    refine Nat.le_trans ?_ (addL_grows n r _)
    split <;> simp

theorem row_ints {W : World} {base g cap : Nat} {l : List Int} {cur : Array Value} (hg : W.heap[g]? = some (.cells cur 3 (0, 0))) (ht : cur.toList.take (l.length * 1) = l.map I) (i : Nat) (hi : i < l.length) : W.cell? ⟨g, i, none⟩ = some (I l[i]) := by
  rw [cell_of_row W g i _ _ _ hg]
  have h1 : (cur.toList.take (l.length * 1))[i]? = (l.map I)[i]? := by rw [ht]
  rw [List.getElem?_take_of_lt (by omega), Array.getElem?_toList, List.getElem?_map, List.getElem?_eq_getElem hi] at h1
  exact h1
theorem ancLoop_step (cl : List Cls) (f k : Nat) (l : List Int) (y : Nat) (hk : k < l.length) (hy : l[k] = (y : Int)) (hyl : y < cl.length) : ancLoop cl (f + 1) k l = ancLoop cl f (k + 1) (addL cl.length cl[y].pars.l l) := by
  rw [ancLoop, List.getElem?_eq_getElem hk]
  dsimp only
  rw [hy, Int.toNat_natCast, List.getElem?_eq_getElem hyl]
theorem ancLoop_end (cl : List Cls) (f : Nat) (l : List Int) : ancLoop cl f l.length l = l := by
  cases f with
  | zero => rfl
  | succ f => rw [ancLoop, List.getElem?_eq_none (Nat.le_refl _)]

set_option maxHeartbeats 3200000 in
theorem anc14_any {ok : Nat → Prop} (P : Prg) (c : Int) (w : World) (hp : PrgL ok w P) (hok : ∀ k, ok k → k < w.heap.size) :
    Calls Tryz.prog 17 #[P.agg, I c] w fun e w' => ∃ s : Sl Int, s.l = ancM P.cls.l c ∧ IntsL (fun k => w.heap.size ≤ k) w' s ∧ e = .returned s.v ∧ Below w.heap.size w w' := by
  have hb1 : Below w.heap.size w (w.alloc (.cells (prgCells P) 28)) := (Below.refl _ _).alloc (Nat.le_refl _) _
  have hT := tl_made hp hok hb1
  have hb2 : Below w.heap.size w ((w.alloc (.cells (prgCells P) 28)).alloc (.cells (prgCells P) 78)) := hb1.alloc (by simp) _
  rw [World.size_alloc] at hT
  have hT3 := hT.below ((Below.refl _ _).alloc (Nat.le_refl _) (.cells #[ptr (w.heap.size + 1)] 76))
  have hBt : Boxed (((w.alloc (.cells (prgCells P) 28)).alloc (.cells (prgCells P) 78)).alloc (.cells #[ptr (w.heap.size + 1)] 76)) (w.heap.size + 1 + 1) 76 (ptr (w.heap.size + 1)) := by
    have := Boxed.new ((w.alloc (.cells (prgCells P) 28)).alloc (.cells (prgCells P) 78)) 76 (ptr (w.heap.size + 1))
    rwa [World.size_alloc, World.size_alloc] at this
  have hPb : (((w.alloc (.cells (prgCells P) 28)).alloc (.cells (prgCells P) 78)).alloc (.cells #[ptr (w.heap.size + 1)] 76)).heap[w.heap.size]? = some (.cells (prgCells P) 28) := by
    rw [Below.heap_alloc _ _ _ (by simp; omega), Below.heap_alloc _ _ _ (by simp)]
    exact heap_alloc_new w _
  have hb3 : Below w.heap.size w (((w.alloc (.cells (prgCells P) 28)).alloc (.cells (prgCells P) 78)).alloc (.cells #[ptr (w.heap.size + 1)] 76)) := hb2.alloc (by simp; omega) _
  have hz3 : (((w.alloc (.cells (prgCells P) 28)).alloc (.cells (prgCells P) 78)).alloc (.cells #[ptr (w.heap.size + 1)] 76)).heap.size = w.heap.size + 3 := by simp
  have HT := Lib.hid hT3
  have HBT := Lib.hid hBt
  have HPB := Lib.hid hPb
  have HB := Lib.hid hb3
  have HZ := Lib.hid hz3
  clear hT hT3 hBt hPb hb3 hz3 hb1 hb2 hp hok
  rw [prg_agg]
  have hmm := @run_makeMap Tryz.prog
  go_enter Tryz.func17, Tryz.ntmps17
  go_upto_region 2 with fail
  change Code.wp _ _ _ _ (((w.alloc (.cells (prgCells P) 28)).alloc (.cells (prgCells P) 78)).alloc (.cells #[ptr (w.heap.size + 1)] 76))
  generalize (((w.alloc (.cells (prgCells P) 28)).alloc (.cells (prgCells P) 78)).alloc (.cells #[ptr (w.heap.size + 1)] 76)) = w3 at *
  have yt : w3.cell? ⟨w.heap.size + 1 + 1, 0, none⟩ = some (ptr (w.heap.size + 1)) := HBT.out.cell
  have HZ1 : Hid (sizeM P 1 = P.cls.l.length) := Lib.hid rfl
  cases e1 : inM c P.cls.l.length with
  | false =>
    go_wp2_with (first | (go_at_call 41; refine (has_any P _ _ _ _ HT.out).mono ?_; rintro e w2 ⟨rfl, rfl⟩; dsimp only; rw [HZ1.out, e1]))
    go_ret
    exact ⟨⟨none, 0, []⟩, by unfold ancM; rw [e1]; rfl, ints_nil, rfl, HB.out⟩
  | true =>
    obtain ⟨x0, rfl, hxn, hx0⟩ := inM_at e1
    go_upto_region 7 with (first | (go_at_call 41; refine (has_any P _ _ _ _ HT.out).mono ?_; rintro e w2 ⟨rfl, rfl⟩; dsimp only; rw [HZ1.out, e1]))
    have hz := HZ.out
    generalize hN : w.heap.size = N at *
    simp only [hz, Nat.add_assoc, Nat.reduceAdd]
    change Code.wp _ _ _ _ (((w3.alloc (.cells #[.slice none 0 0] 44)).alloc (.map #[] 0)).alloc (.cells #[.map (some (N + 4))] 90))
    have hA0 : Anc (((w3.alloc (.cells #[.slice none 0 0] 44)).alloc (.map #[] 0)).alloc (.cells #[.map (some (N + 4))] 90)) (N + 1) P [] [] := by
      have b1 : Below (N + 3) w3 (w3.alloc (.cells #[.slice none 0 0] 44)) := (Below.refl _ _).alloc (by omega) _
      have b2 : Below (N + 3) w3 ((w3.alloc (.cells #[.slice none 0 0] 44)).alloc (.map #[] 0)) := b1.alloc (by simp; omega) _
      have b3 : Below (N + 3) w3 (((w3.alloc (.cells #[.slice none 0 0] 44)).alloc (.map #[] 0)).alloc (.cells #[.map (some (N + 4))] 90)) := b2.alloc (by simp; omega) _
      refine ⟨HT.out.move fun k hk => b3.block k (by omega), (b3.block _ (by omega)).trans HBT.out, ?_, ⟨.slice none 0 0, ?_, World.ownsRow_nil _ _ _ _⟩, ?_⟩
      · have := Boxed.new ((w3.alloc (.cells #[.slice none 0 0] 44)).alloc (.map #[] 0)) 90 (.map (some (N + 4)))
        simpa [World.size_alloc, hz] using this
      · have := ((Boxed.new w3 44 (.slice none 0 0)).alloc (.map #[] 0)).alloc (.cells #[.map (some (N + 4))] 90)
        rwa [hz] at this
      · have := set_made (w3.alloc (.cells #[.slice none 0 0] 44)) 3
        rw [World.size_alloc, hz] at this
        exact this.kept (Below.heap_alloc _ _ _ (by simp; omega))
    have hb6 : Below N w (((w3.alloc (.cells #[.slice none 0 0] 44)).alloc (.map #[] 0)).alloc (.cells #[.map (some (N + 4))] 90)) := ((HB.out.alloc (by omega) _).alloc (by simp; omega) _).alloc (by simp; omega) _
    have hp6 : (((w3.alloc (.cells #[.slice none 0 0] 44)).alloc (.map #[] 0)).alloc (.cells #[.map (some (N + 4))] 90)).heap[N]? = some (.cells (prgCells P) 28) := by
      rw [Below.heap_alloc _ _ _ (by simp; omega), Below.heap_alloc _ _ _ (by simp; omega), Below.heap_alloc _ _ _ (by omega)]
      exact HPB.out
    generalize (((w3.alloc (.cells #[.slice none 0 0] 44)).alloc (.map #[] 0)).alloc (.cells #[.map (some (N + 4))] 90)) = w6 at *
    clear yt HT HBT HPB HB HZ hz e1
    have HADD : Hid (∀ W l s (k : Cls), Anc W (N + 1) P l s → Good P.cls.l.length l s → k ∈ P.cls.l → Calls Tryz.prog 43 #[.agg #[.string k.nm, I k.kind, I k.flags, I k.owner, .slice k.tps.a k.tps.l.length k.tps.cap, .slice k.pars.a k.pars.l.length k.pars.cap, .slice k.prms.a k.prms.l.length k.prms.cap, .slice k.flds.a k.flds.l.length k.flds.cap, .slice k.mths.a k.mths.l.length k.mths.cap, .slice k.tys.a k.tys.l.length k.tys.cap, .slice k.sups.a k.sups.l.length k.sups.cap, .slice k.ini.a k.ini.l.length k.ini.cap, I k.p], ptr (N + 2), ptr (N + 5), ptr (N + 3)] W
      fun e w' => e = .returned (.tuple #[]) ∧ (∃ s', Anc w' (N + 1) P (addL P.cls.l.length k.pars.l l) s' ∧ Good P.cls.l.length (addL P.cls.l.length k.pars.l l) s') ∧ Below (N + 3) W w') := Lib.hid fun W l s k h1 h2 h3 => add32_any (N + 1) P l s k W h1 h2 (h1.tl.prg.clsL k h3)
    have HPL : Hid (∀ W, Below (N + 3) w6 W → W.cell? ⟨N, 0, none⟩ = some (.slice P.cls.a P.cls.l.length P.cls.cap)) := Lib.hid fun W hW => cell_of_row W N 0 _ _ _ ((hW.block N (by omega)).trans hp6)
    have hbig : P.cls.l.length ≤ 140737488355328 := by have h1 := hA0.tl.prg.cls.1; have h2 := hA0.tl.prg.cls.2.1; omega
    have HBIG := Lib.hid hbig
    have HN0' := Lib.hid (show P.cls.l.length ≤ 586406201480 by have h1 := hA0.tl.prg.cls.1; have h2 := hA0.tl.prg.cls.2.1; omega)
    obtain ⟨b, o, ha, _, _⟩ := sl_at hA0.tl.prg.cls (by omega)
    have HCL : Hid (∀ W, Anc W (N + 1) P [] [] ∨ (∃ l s, Anc W (N + 1) P l s) → ∀ y (hy : y < P.cls.l.length), CellsIn W b (o + y * 13) P.cls.l[y].cells) := Lib.hid fun W hW y hy => by
      have hTL : TL W (N + 1) P := by
        rcases hW with h | ⟨l, s, h⟩
        · exact h.tl
        · exact h.tl
      obtain ⟨b', o', ha', _, hcs⟩ := sl_at hTL.prg.cls (by omega)
      rw [ha] at ha'
      obtain ⟨rfl, rfl⟩ : b = b' ∧ o = o' := by simpa using ha'
      exact hcs y hy
    have p0 := HPL.out w6 (Below.refl _ _)
    rw [ha] at p0
    have hii : ((x0 : Int) < (P.cls.l.length : Int)) := by omega
    have hmem := List.getElem_mem hx0
    obtain ⟨t0, t1, t2, t3, t4, t5, t6, t7, t8, t9, t10, t11, t12⟩ := cls_cells0 (HCL.out w6 (.inl hA0) x0 hx0)
    unfold Sl.v at t4 t5 t6 t7 t8 t9 t10 t11
    have HRES := Lib.hid (show ancM P.cls.l (x0 : Int) = (ancRaw P.cls.l P.cls.l[x0]).mergeSort (fun x y => decide (x ≤ y)) by
      unfold ancM
      rw [if_pos (by unfold inM; simp; omega), hxn, List.getElem?_eq_getElem hx0])
    generalize hk0 : P.cls.l[x0] = k0 at *
    have HB6 := Lib.hid hb6
    have HA0 := Lib.hid hA0
    clear hb6 hA0 hp6 hk0 hmm
    go_wp2_with (first | (go_at_call 43; refine (HADD.out w6 [] [] k0 HA0.out ⟨by simp, (fun x hx => by cases hx), fun _ => rfl, rfl⟩ hmem).mono ?_; rintro e w7 ⟨rfl, ⟨s7, hA7, hG7⟩, hb7⟩; have HA7 := Lib.hid hA7; have HG7 := Lib.hid hG7; have HB7 := Lib.hid hb7; clear hA7 hG7 hb7))
    clear p0 t0 t1 t2 t3 t4 t5 t6 t7 t8 t9 t10 t11 t12 hii hmem
    go_loopg [9] (P.cls.l.length + 2) (fun n v wr => ∃ k : Nat, ∃ l s : List Int, k ≤ l.length ∧ v = .int .i64 k ∧ Hid (n = P.cls.l.length + 2 - k) ∧ Hid (ancLoop P.cls.l (P.cls.l.length + 1 - k) k l = ancRaw P.cls.l k0) ∧ Hid (Anc wr (N + 1) P l s) ∧ Hid (Good P.cls.l.length l s) ∧ Hid (Below (N + 3) w6 wr))
    case atStart => exact ⟨0, _, s7, Nat.zero_le _, rfl, rfl, rfl, HA7.out, HG7.out, HB7.out⟩
    case round =>
      obtain ⟨k, l, s, hk, rfl, HN, HD, HA, HG, HW⟩ := hrel
      have hll : l.length ≤ P.cls.l.length := nodup_le _ _ HG.out.nd HG.out.inr
      have HLL := Lib.hid hll
      have hlb := HBIG.out
      obtain ⟨v, hv, hrow⟩ := HA.out.bl
      have yv : wr.cell? ⟨N + 3, 0, none⟩ = some v := hv.cell
      by_cases hlt : k < l.length
      · have d2 : ((k : Int) < (l.length : Int)) := by omega
        rcases hrow.2 with ⟨_, h0⟩ | ⟨g, cap, cur, rfl, hge, hgb, hcap, hcm, hcs, hct⟩
        · omega
        have ye : wr.cell? ⟨g, k, none⟩ = some (I l[k]) := row_ints (base := 0) (cap := 0) hgb hct k hlt
        have hin : inM l[k] P.cls.l.length = true := HG.out.inr _ (List.getElem_mem hlt)
        obtain ⟨y, hy, _, hyl⟩ := inM_at (l := P.cls.l) hin
        rw [hy] at ye
        have dy : ((y : Int) < (P.cls.l.length : Int)) := by omega
        have HST : Hid (ancLoop P.cls.l (P.cls.l.length + 1 - (k + 1)) (k + 1) (addL P.cls.l.length P.cls.l[y].pars.l l) = ancRaw P.cls.l k0) := Lib.hid (by
          have := HD.out
          obtain ⟨m, hm⟩ : ∃ m, P.cls.l.length + 1 - k = m + 1 := ⟨P.cls.l.length - k, by omega⟩
          rw [hm, ancLoop_step P.cls.l m k l y hlt hy hyl] at this
          rw [show P.cls.l.length + 1 - (k + 1) = m by omega]
          exact this)
        obtain ⟨t0, t1, t2, t3, t4, t5, t6, t7, t8, t9, t10, t11, t12⟩ := cls_cells0 (HCL.out wr (.inr ⟨l, s, HA.out⟩) y hyl)
        unfold Sl.v at t4 t5 t6 t7 t8 t9 t10 t11
        have hmem := List.getElem_mem hyl
        have HMEM := Lib.hid hmem
        have p0 := HPL.out wr HW.out
        rw [ha] at p0
        have HGR := Lib.hid (addL_grows P.cls.l.length P.cls.l[y].pars.l l)
        clear hin hy hge hgb hcs hct hcm hrow hv HD hmem
        generalize P.cls.l[y] = ky at *
        go_upto_region 11 with fail
        go_still_tail 9, (by kernel_rfl)
        change wpList _ _ _ _ _ wr.drew
        go_wp2_with (first | (go_at_call 43; refine (HADD.out wr.drew l s ky HA.out.drew HG.out HMEM.out).mono ?_; rintro e w8 ⟨rfl, ⟨s8, hA8, hG8⟩, hb8⟩; have HA8 := Lib.hid hA8; have HG8 := Lib.hid hG8; have HB8 := Lib.hid hb8; clear hA8 hG8 hb8))
        go_roundg (P.cls.l.length + 2 - (k + 1))
        case measure => have := HN.out; omega
        case rel => exact ⟨k + 1, _, s8, by have := HGR.out; omega, by first | go_num | (rw [IntWalk.wrap64_in _ (by omega)]; go_num), rfl, HST.out, HA8.out, HG8.out, HW.out.drew.trans HB8.out⟩
      · obtain rfl : k = l.length := by omega
        have HFIN : Hid (l = ancRaw P.cls.l k0) := Lib.hid (by have := HD.out; rw [ancLoop_end] at this; exact this)
        rcases hrow.2 with ⟨rfl, h0⟩ | ⟨g, cap, cur, rfl, hge, hgb, hcap, hcm, hcs, hct⟩
        · have hl0 : l = [] := List.eq_nil_of_length_eq_zero h0
          subst hl0
          have HFB := Lib.hid (HB6.out.trans (HW.out.mono (by omega)))
          have HRS := Lib.hid (show ([] : List Int) = ancM P.cls.l (x0 : Int) by rw [HRES.out, ← HFIN.out, List.mergeSort_nil])
          clear hrow hv
          go_wp2_with (first | (go_at_call 44; refine (Tryz.slices_Sort_int_none _ _ _).mono ?_; rintro e w9 ⟨rfl, rfl⟩))
          go_ret
          exact ⟨⟨none, 0, []⟩, HRS.out, ints_nil, rfl, by rw [hN]; exact HFB.out⟩
        · have hH : Holds (Value.int .i64) wr g 0 l.toArray := holds_of_blockI hgb (by rw [Nat.mul_one] at hct; exact hct)
          have hgl : g < wr.heap.size := lt_of_block hgb
          have HSO : Hid (Calls Tryz.prog 44 #[.slice (some ⟨g, 0, none⟩) l.length cap] wr fun e w' => e = .returned (.tuple #[]) ∧ wr.grownBy w' (some g) ∧ w'.ownsRow (N + 3) 3 1 (.slice (some ⟨g, 0, none⟩) l.length cap) l.length ((l.mergeSort fun x y => decide (x ≤ y)).map I)) :=
            Lib.hid ((Tryz.slices_Sort_int g 0 cap l wr hH hgl (by omega)).mono fun e w' hp => by
              obtain ⟨h1, n, os, rfl⟩ := hp
              exact ⟨h1, grownBy_sortedI _, ownsRow_sortedI (by simp) hge hgb hcap hcm hcs⟩)
          have HGE := Lib.hid hge
          have HV2 := Lib.hid hv
          have HNR := Lib.hid (hv.not_row (by decide) hrow)
          have HCAP := Lib.hid hcap
          clear hrow hv hH hgl hgb hcs hct hge hcap hcm
          go_wp2_with (first | (go_at_call 44; refine HSO.out.mono ?_; rintro e w9 ⟨rfl, hg9, ho9⟩; have HG9 := Lib.hid hg9; have HO9 := Lib.hid ho9; have yv9 := (HV2.out.kept hg9 HNR.out).cell; clear hg9 ho9))
          go_ret
          have hlen : (l.mergeSort fun x y => decide (x ≤ y)).length = l.length := List.length_mergeSort _
          refine ⟨⟨some ⟨g, 0, none⟩, cap, l.mergeSort fun x y => decide (x ≤ y)⟩, ?_, ⟨⟨?_, ?_, .inr ⟨g, 0, rfl, ?_, fun i hi => ?_⟩⟩, fun x hx => ?_⟩, ?_, ?_⟩
          · rw [HRES.out, ← HFIN.out]
          · show (l.mergeSort fun x y => decide (x ≤ y)).length ≤ cap
            rw [hlen]; exact HCAP.out
          · show (l.mergeSort fun x y => decide (x ≤ y)).length * 8 ≤ _
            rw [hlen]; have := HLL.out; have := HN0'.out; omega
          · have := HGE.out; omega
          · intro j hj
            obtain rfl : j = 0 := by simpa using hj
            have hi' : i < (l.mergeSort fun x y => decide (x ≤ y)).length := hi
            have := HO9.out.cellAt i (by rw [hlen] at hi'; omega)
            rw [Nat.zero_add, Nat.mul_one, Nat.add_zero, this, List.getElem?_map, List.getElem?_eq_getElem hi']
            rfl
          · have hm : x ∈ l := List.mem_mergeSort.1 hx
            have := HG.out.inr x hm
            unfold inM at this
            simp at this
            have := HBIG.out
            exact WalkArith.wf_i64 (by omega)
          · show Ending.returned (Value.slice (some ⟨g, 0, none⟩) l.length cap) = .returned (.slice (some ⟨g, 0, none⟩) (l.mergeSort fun x y => decide (x ≤ y)).length cap)
            rw [hlen]
          · rw [hN]
            exact (HB6.out.trans (HW.out.mono (by omega))).trans ⟨HG9.out.os, HG9.out.tape, HG9.out.output, HG9.out.size, fun k hk => HG9.out.block k (by have := HW.out.size; have := HB6.out.size; have := HA.out.lt; omega) (by have := HGE.out; simp; omega)⟩
end Go.Proofs.YtfbaikijnjafbaaGreatDoor
