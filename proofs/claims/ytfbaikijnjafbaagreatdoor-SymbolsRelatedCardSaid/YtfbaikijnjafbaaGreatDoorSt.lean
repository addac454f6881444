/- Check of package symbols, from what its rules and main give. Conditions: what the theorem names. -/
import Derived.Test.YtfbaikijnjafbaaGreatDoorSr
import Derived.Laws.EntriesVeiled
namespace Go.Proofs.YtfbaikijnjafbaaGreatDoor
set_option linter.unusedSimpArgs false
set_option linter.unusedVariables false
open Go.RowKit
set_option maxRecDepth 100000

def ruleParts : List Nat := [1, 1, 1, 1, 2, 3, 4, 5, 1, 3, 2, 5, 4]
def ruleFns : List Nat := [61, 62, 63, 64, 65, 66, 67, 68, 69, 70, 71, 72, 73]
def ruleCells : Array Value := #[I 1, .func (.func 61) #[] #[], I 1, .func (.func 62) #[] #[], I 1, .func (.func 63) #[] #[], I 1, .func (.func 64) #[] #[], I 2, .func (.func 65) #[] #[], I 3, .func (.func 66) #[] #[], I 4, .func (.func 67) #[] #[], I 5, .func (.func 68) #[] #[],
  I 1, .func (.func 69) #[] #[], I 3, .func (.func 70) #[] #[], I 2, .func (.func 71) #[] #[], I 5, .func (.func 72) #[] #[], I 4, .func (.func 73) #[] #[]]
theorem rules_any (w : World) : Calls Tryz.prog 32 #[] w fun e w' => e = .returned (.slice (some ⟨w.heap.size, 0, none⟩) 13 13) ∧ w' = w.alloc (.cells ruleCells 84) := by
  go_enter Tryz.func32, Tryz.ntmps32
  go_wp2_with fail
  go_ret
  exact ⟨rfl, rfl⟩

/-- The first of n items from i on whose code is not 0. -/
def firstBad (rm : Nat → Int) : Nat → Nat → Option (Nat × Int)
  | 0, _ => none
  | n + 1, i => if (rm i != 0) = true then some (i, rm i) else firstBad rm n (i + 1)
def rulesFrom (P : Prg) (rm : Nat → Nat → Int) : Nat → Nat → Option (Int × Nat × Int)
  | 0, _ => none
  | n + 1, k => match firstBad (rm k) (sizeM P ((ruleParts.getD k 0 : Nat) : Int)) 0 with
    | some (i, c) => some (((ruleParts.getD k 0 : Nat) : Int), i, c)
    | none => rulesFrom P rm n (k + 1)
def tooMany (P : Prg) : Nat → Nat → Bool
  | 0, _ => false
  | n + 1, p => if decide (500 < (sizeM P (p : Int) : Int)) = true then true else tooMany P n (p + 1)
def checkM (P : Prg) (rm : Nat → Nat → Int) (mm : Int) : Int × Int × Int :=
  if tooMany P 5 1 = true then (0, 0, 18)
  else match rulesFrom P rm 13 0 with
    | some (p, i, c) => (p, (i : Int), c)
    | none => if (mm != 0) = true then (6, P.main, mm) else (0, 0, 0)
theorem firstBad_none {rm : Nat → Int} : ∀ {n i : Nat}, firstBad rm n i = none → ∀ j, i ≤ j → j < i + n → rm j = 0
  | 0, i, _, j, h1, h2 => absurd h2 (by omega)
  | n + 1, i, h, j, h1, h2 => by
    rw [firstBad] at h
    split at h
    · cases h
    · rename_i hc
      by_cases e : j = i
      · subst e; simpa using hc
      · exact firstBad_none h j (by omega) (by omega)

def fltCells (a b c : Int) : Array Value := #[I a, I b, I c]
theorem set3 (W : World) (k : Nat) (u0 u1 u2 v0 v1 v2 : Value) (t : TypeId) (h : W.heap[k]? = some (.cells #[u0, u1, u2] t)) : (((W.setCell ⟨k, 0, none⟩ v0).setCell ⟨k, 1, none⟩ v1).setCell ⟨k, 2, none⟩ v2).heap[k]? = some (.cells #[v0, v1, v2] t) := by
  simp [World.setCell, Array.getElem?_modify, h]

theorem sizes_small {W : World} {T : Nat} {P : Prg} (h : TL W T P) (p : Nat) : sizeM P (p : Int) ≤ 140737488355328 := by
  have a1 := h.prg.cls.1; have a2 := h.prg.cls.2.1; have b1 := h.prg.mth.2.1; have c1 := h.prg.fld.2.1; have d1 := h.prg.tpm.2.1; have e1 := h.prg.tym.2.1
  unfold sizeM
  split
  · omega
  split
  · omega
  split
  · omega
  split
  · omega
  split <;> omega
theorem frozen_of {W : World} {b j : Nat} {cs : Array Value} {t : TypeId} (h : W.heap[b]? = some (.cells cs t)) : W.frozen? ⟨b, j, none⟩ = false := by simp [World.frozen?, h]

set_option maxHeartbeats 64000000 in
theorem check_gen {ok : Nat → Prop} (P : Prg) (rm : Nat → Nat → Int) (mm : Int) (w : World) (hp : PrgL ok w P) (hok : ∀ k, ok k → k < w.heap.size) (hg : Gl w)
    (hru : ∀ T W k i, TL W T P → Gl W → T = w.heap.size + 2 → k < 13 → (∀ k', k' < k → ∀ i', i' < sizeM P ((ruleParts.getD k' 0 : Nat) : Int) → rm k' i' = 0) → i < sizeM P ((ruleParts.getD k 0 : Nat) : Int) → Calls Tryz.prog (ruleFns.getD k 0) #[ptr T, I i] W (Bof W (I (rm k i))))
    (hma : ∀ T W, TL W T P → Gl W → T = w.heap.size + 2 → (∀ k', k' < 13 → ∀ i', i' < sizeM P ((ruleParts.getD k' 0 : Nat) : Int) → rm k' i' = 0) → Calls Tryz.prog 33 #[ptr T] W (Bof W (I mm))) :
    Calls Tryz.prog 9 #[P.agg] w (Bof w (.agg #[I (checkM P rm mm).1, I (checkM P rm mm).2.1, I (checkM P rm mm).2.2])) := by
  have hb2 : Below w.heap.size w ((w.alloc (.cells (prgCells P) 28)).alloc (.cells #[I 0, I 0, I 0] 33)) := ((Below.refl _ _).alloc (Nat.le_refl _) _).alloc (by simp) _
  have hT := tl_made hp hok hb2
  rw [World.size_alloc, World.size_alloc] at hT
  have hb3 : Below w.heap.size w (((w.alloc (.cells (prgCells P) 28)).alloc (.cells #[I 0, I 0, I 0] 33)).alloc (.cells (prgCells P) 78)) := hb2.alloc (by simp; omega) _
  have hF : (((w.alloc (.cells (prgCells P) 28)).alloc (.cells #[I 0, I 0, I 0] 33)).alloc (.cells (prgCells P) 78)).heap[w.heap.size + 1]? = some (.cells #[I 0, I 0, I 0] 33) := by
    rw [Below.heap_alloc _ _ _ (by simp)]
    exact heap_alloc2_new w _ _
  have hPb : (((w.alloc (.cells (prgCells P) 28)).alloc (.cells #[I 0, I 0, I 0] 33)).alloc (.cells (prgCells P) 78)).heap[w.heap.size]? = some (.cells (prgCells P) 28) := by
    rw [Below.heap_alloc _ _ _ (by simp; omega), Below.heap_alloc _ _ _ (by simp)]
    exact heap_alloc_new w _
  have hz3 : (((w.alloc (.cells (prgCells P) 28)).alloc (.cells #[I 0, I 0, I 0] 33)).alloc (.cells (prgCells P) 78)).heap.size = w.heap.size + 3 := by simp
  have hG3 := hg.below hb3 hg.1
  have HT := Lib.hid hT
  have HF := Lib.hid hF
  have HPB := Lib.hid hPb
  have HB := Lib.hid hb3
  have HZ := Lib.hid hz3
  have HG := Lib.hid hG3
  have HRU := Lib.hid hru
  have HMA := Lib.hid hma
  have hg1 := hg.1
  clear hT hF hPb hb3 hz3 hG3 hru hma hb2 hp hok hg
  rw [prg_agg]
  unfold Bof
  generalize hres : checkM P rm mm = res
  have HR := Lib.hid hres
  clear hres
  go_enter Tryz.func9, Tryz.ntmps9
  go_upto_region 2 with fail
  change Code.wp _ _ _ _ (((w.alloc (.cells (prgCells P) 28)).alloc (.cells #[I 0, I 0, I 0] 33)).alloc (.cells (prgCells P) 78))
  generalize (((w.alloc (.cells (prgCells P) 28)).alloc (.cells #[I 0, I 0, I 0] 33)).alloc (.cells (prgCells P) 78)) = w3 at *
  have f0 : w3.cell? ⟨w.heap.size + 1, 0, none⟩ = some (I 0) := cell_of_row _ _ 0 _ _ _ HF.out
  have f1 : w3.cell? ⟨w.heap.size + 1, 1, none⟩ = some (I 0) := cell_of_row _ _ 1 _ _ _ HF.out
  have f2 : w3.cell? ⟨w.heap.size + 1, 2, none⟩ = some (I 0) := cell_of_row _ _ 2 _ _ _ HF.out
  have g0 : w3.frozen? ⟨w.heap.size + 1, 0, none⟩ = false := by simp [World.frozen?, HF.out]
  have g1 : w3.frozen? ⟨w.heap.size + 1, 1, none⟩ = false := by simp [World.frozen?, HF.out]
  have g2 : w3.frozen? ⟨w.heap.size + 1, 2, none⟩ = false := by simp [World.frozen?, HF.out]
  go_wp2_with fail
  go_loopg [4] 6 (fun n v wx => ∃ p : Nat, 1 ≤ p ∧ p ≤ 6 ∧ v = .int .i64 p ∧ Hid (n = 6 - p + 1) ∧ Hid (tooMany P (6 - p) p = tooMany P 5 1) ∧ wx = w3)
  case atStart => exact ⟨1, by omega, by omega, rfl, rfl, rfl, rfl⟩
  case round =>
    obtain ⟨p, hp1, hp6, rfl, HN, HD, rfl⟩ := hrel
    by_cases hlt : p < 6
    · have d2 : ((p : Int) < 6) := by omega
      have HD2 : Hid ((if decide (500 < (sizeM P (p : Int) : Int)) = true then true else tooMany P (6 - (p + 1)) (p + 1)) = tooMany P 5 1) := by
        have := HD.out
        obtain ⟨m, hm⟩ : ∃ m, 6 - p = m + 1 := ⟨5 - p, by omega⟩
        rw [hm, tooMany] at this
        rw [show 6 - (p + 1) = m by omega]
        exact this
      cases e : decide (500 < (sizeM P (p : Int) : Int)) with
      | true =>
        have e' : decide (500 < sizeM P (p : Int)) = true := by have := of_decide_eq_true e; exact decide_eq_true (by omega)
        obtain rfl : ((0, 0, 18) : Int × Int × Int) = res := by have := HR.out; unfold checkM at this; rw [← HD2.out, e] at this; exact this
        go_wp2_with (first | (go_at_call 31; refine (size_any P _ _ _ HT.out).mono ?_; rintro e w2 ⟨rfl, rfl⟩; dsimp only))
        refine bodyPost_ret (results_cell_row rfl _ _ (w.heap.size + 1) 33 #[I 0, I 0, I 18] (0, 0) _ rfl (set3 _ _ _ _ _ _ _ _ _ HF.out) Tryz.underlying33 rfl (by kernel_rfl)) rfl ?_
        exact ⟨rfl, ((HB.out.setCell (by show _ ≤ w.heap.size + 1; omega) _).setCell (by show _ ≤ w.heap.size + 1; omega) _).setCell (by show _ ≤ w.heap.size + 1; omega) _⟩
      | false =>
        have e' : decide (500 < sizeM P (p : Int)) = false := by have := of_decide_eq_false e; exact decide_eq_false (by omega)
        have HD3 : Hid (tooMany P (6 - (p + 1)) (p + 1) = tooMany P 5 1) := by have := HD2.out; rw [e] at this; exact this
        go_wp2_with (first | (go_at_call 31; refine (size_any P _ _ _ HT.out).mono ?_; rintro e w2 ⟨rfl, rfl⟩; dsimp only))
        go_roundg (6 - (p + 1) + 1)
        case measure => have := HN.out; omega
        case rel => exact ⟨p + 1, by omega, by omega, by first | go_num | (rw [IntWalk.wrap64_in _ (by omega)]; go_num), rfl, HD3, rfl⟩
    · obtain rfl : p = 6 := by omega
      have HTM : Hid (tooMany P 5 1 = false) := Lib.hid (by have := HD.out; rw [Nat.sub_self, tooMany] at this; exact this.symm)
      clear f0 f1 f2 g0 g1 g2
      have hz := HZ.out
      have hrb : (wr.alloc (.cells ruleCells 84)).heap[wr.heap.size]? = some (.cells ruleCells 84) := heap_alloc_new wr _
      have hbr : Below (w.heap.size + 3) wr (wr.alloc (.cells ruleCells 84)) := (Below.refl _ _).alloc (by omega) _
      go_wp2_with (first | (go_at_call 32; refine (rules_any _).mono ?_; rintro e w2 ⟨rfl, rfl⟩; dsimp only))
      generalize hN : w.heap.size = N at *
      rw [hz] at hrb ⊢
      generalize (wr.alloc (.cells ruleCells 84)) = w4 at *
      have HRB := Lib.hid hrb
      have hb4 : Below N w w4 := HB.out.trans (hbr.mono (by omega))
      have HB4 := Lib.hid hb4
      have HT4 : Hid (TL w4 (N + 1 + 1) P) := Lib.hid (HT.out.move fun k hk => hbr.block k (by omega))
      have HF4 : Hid (w4.heap[N + 1]? = some (.cells #[I 0, I 0, I 0] 33)) := Lib.hid ((hbr.block _ (by omega)).trans HF.out)
      have HG4 : Hid (Gl w4) := Lib.hid (HG.out.below hbr (by omega))
      have HP4 : Hid (w4.heap[N]? = some (.cells (prgCells P) 28)) := Lib.hid ((hbr.block _ (by omega)).trans HPB.out)
      have HS4 : Hid (N + 4 ≤ w4.heap.size) := Lib.hid (by have := lt_of_block hrb; omega)
      clear hrb hb4 hbr HB HT HF HG HPB HZ hz HN HD
      go_loopg [24] 14 (fun n v wx => ∃ k : Nat, k ≤ 13 ∧ v = .int .i64 k ∧ Hid (n = 14 - k) ∧ Hid (rulesFrom P rm (13 - k) k = rulesFrom P rm 13 0) ∧ Hid (∀ k', k' < k → ∀ i', i' < sizeM P ((ruleParts.getD k' 0 : Nat) : Int) → rm k' i' = 0) ∧ Hid (Below (N + 4) w4 wx))
      case atStart => exact ⟨0, by omega, rfl, rfl, rfl, (fun k' hk' => absurd hk' (Nat.not_lt_zero _)), Below.refl _ _⟩
      case round =>
        obtain ⟨k, hk, rfl, HN, HD, HZE, HW⟩ := hrel
        have hws : N + 4 ≤ wr.heap.size := by have := HW.out.size; have := HS4.out; omega
        by_cases hlt : k < 13
        · have HSZ500 : Hid (∀ p : Nat, sizeM P (p : Int) ≤ 140737488355328) := Lib.hid (sizes_small HT4.out)
          have hrc : ∀ j, wr.cell? ⟨N + 3, j, none⟩ = ruleCells[j]? := fun j => cell_of_row wr (N + 3) j _ _ _ ((HW.out.block _ (by omega)).trans HRB.out)
          have HTX : Hid (∀ W, Below (N + 4) w4 W → TL W (N + 1 + 1) P) := Lib.hid fun W hW => HT4.out.move fun k hk => hW.block k (by omega)
          have HGX : Hid (∀ W, Below (N + 4) w4 W → Gl W) := Lib.hid fun W hW => HG4.out.below hW (by omega)
          have HFX : Hid (∀ W, Below (N + 4) w4 W → W.heap[N + 1]? = some (.cells #[I 0, I 0, I 0] 33)) := Lib.hid fun W hW => (hW.block _ (by omega)).trans HF4.out
          have HFIN : Hid (∀ W, Below (N + 4) w4 W → Below N w W) := Lib.hid fun W hW => HB4.out.trans (hW.mono (by omega))
          clear HB4 HT4 HF4 HG4 HP4
          have hcs : k = 0 ∨ k = 1 ∨ k = 2 ∨ k = 3 ∨ k = 4 ∨ k = 5 ∨ k = 6 ∨ k = 7 ∨ k = 8 ∨ k = 9 ∨ k = 10 ∨ k = 11 ∨ k = 12 := by omega
          rcases hcs with rfl | rfl | rfl | rfl | rfl | rfl | rfl | rfl | rfl | rfl | rfl | rfl | rfl
          · have r0 : wr.cell? ⟨N + 3, 0, none⟩ = some (I 1) := hrc 0
            have r1 : wr.cell? ⟨N + 3, 1, none⟩ = some (.func (.func 61) #[] #[]) := hrc 1
            have HD2 : Hid ((match firstBad (rm 0) (sizeM P 1) 0 with | some (i, c) => some (((1 : Nat) : Int), i, c) | none => rulesFrom P rm (13 - (0 + 1)) (0 + 1)) = rulesFrom P rm 13 0) := HD.out
            have hpt := HTX.out wr HW.out
            clear hrc HD
            go_upto_region 10 with fail
            change Code.wp _ _ _ _ (wr.alloc (.cells #[I 1, .func (.func 61) #[] #[]] 84))
            have hM : (wr.alloc (.cells #[I 1, .func (.func 61) #[] #[]] 84)).heap[wr.heap.size]? = some (.cells #[I 1, .func (.func 61) #[] #[]] 84) := heap_alloc_new wr _
            have hb5 : Below (N + 4) w4 (wr.alloc (.cells #[I 1, .func (.func 61) #[] #[]] 84)) := HW.out.alloc hws _
            generalize (wr.alloc (.cells #[I 1, .func (.func 61) #[] #[]] 84)) = w5 at *
            generalize hMM : wr.heap.size = M at *
            have m0 : w5.cell? ⟨M, 0, none⟩ = some (I 1) := cell_of_row _ _ 0 _ _ _ hM
            have HM := Lib.hid hM
            have HB5 := Lib.hid hb5
            clear hM hb5 r0 r1 hpt
            go_wp2_with (first | (go_at_call 31; refine (size_any P _ _ _ (HTX.out w5 HB5.out)).mono ?_; rintro e w2 ⟨rfl, rfl⟩; dsimp only))
            clear m0
            go_loopg [32] (sizeM P 1 + 1) (fun n v wx => ∃ i : Nat, i ≤ sizeM P 1 ∧ v = .int .i64 i ∧ Hid (n = sizeM P 1 + 1 - i) ∧ Hid (firstBad (rm 0) (sizeM P 1 - i) i = firstBad (rm 0) (sizeM P 1) 0) ∧ Hid (Below (M + 1) w5 wx))
            case atStart => exact ⟨0, by omega, rfl, rfl, rfl, Below.refl _ _⟩
            case round =>
              obtain ⟨i, hi, rfl, HN2, HE, HV⟩ := hrel
              have hbv : Below (N + 4) w4 wr := HB5.out.trans (HV.out.mono (by omega))
              have HBV := Lib.hid hbv
              have hsm : sizeM P 1 ≤ 140737488355328 := HSZ500.out 1
              have mh := (HV.out.block M (by omega)).trans HM.out
              have m0 : wr.cell? ⟨M, 0, none⟩ = some (I 1) := cell_of_row _ _ 0 _ _ _ mh
              have m1 : wr.cell? ⟨M, 1, none⟩ = some (.func (.func 61) #[] #[]) := cell_of_row _ _ 1 _ _ _ mh
              have mf := HFX.out wr hbv
              have f0 : wr.cell? ⟨N + 1, 0, none⟩ = some (I 0) := cell_of_row _ _ 0 _ _ _ mf
              have f1 : wr.cell? ⟨N + 1, 1, none⟩ = some (I 0) := cell_of_row _ _ 1 _ _ _ mf
              have f2 : wr.cell? ⟨N + 1, 2, none⟩ = some (I 0) := cell_of_row _ _ 2 _ _ _ mf
              clear hbv mh
              by_cases hlt2 : i < sizeM P 1
              · have d3 : ((i : Int) < (sizeM P 1 : Int)) := by omega
                have HE2 : Hid ((if (rm 0 i != 0) = true then some (i, rm 0 i) else firstBad (rm 0) (sizeM P 1 - (i + 1)) (i + 1)) = firstBad (rm 0) (sizeM P 1) 0) := by
                  have := HE.out
                  obtain ⟨m, hm⟩ : ∃ m, sizeM P 1 - i = m + 1 := ⟨sizeM P 1 - i - 1, by omega⟩
                  rw [hm, firstBad] at this
                  rw [show sizeM P 1 - (i + 1) = m by omega]
                  exact this
                have HC1 : Hid (Calls Tryz.prog 61 #[ptr (N + 1 + 1), I i] wr fun e w' => e = .returned (I (rm 0 i)) ∧ Below wr.heap.size wr w') := Lib.hid (HRU.out (N + 1 + 1) wr 0 i (HTX.out wr HBV.out) (HGX.out wr HBV.out) rfl (by omega) HZE.out hlt2)
                have hwrs : N + 1 < wr.heap.size := lt_of_block mf
                have hwm : M < wr.heap.size := by have := HV.out.size; have := lt_of_block HM.out; omega
                have HMF := Lib.hid mf
                generalize rm 0 i = code at *
                clear mf HE
                cases e : (code != 0) with
                | true =>
                  obtain rfl : (((1 : Nat) : Int), (i : Int), code) = res := by
                    have h1 := HR.out
                    unfold checkM at h1
                    rw [HTM.out, ← HD2.out, ← HE2.out, e] at h1
                    exact h1
                  go_wp2_with (first | (go_at_call 61; refine HC1.out.mono ?_; rintro e w6 ⟨rfl, hb6⟩; have n0 := (hb6.cell (p := ⟨M, 0, none⟩) hwm).trans m0; have q0 := (hb6.cell (p := ⟨N + 1, 0, none⟩) hwrs).trans f0; have q1 := (hb6.cell (p := ⟨N + 1, 1, none⟩) hwrs).trans f1; have q2 := (hb6.cell (p := ⟨N + 1, 2, none⟩) hwrs).trans f2; have HQF := Lib.hid ((hb6.block _ hwrs).trans HMF.out); have g0 : w6.frozen? ⟨N + 1, 0, none⟩ = false := frozen_of HQF.out; have g1 : w6.frozen? ⟨N + 1, 1, none⟩ = false := frozen_of HQF.out; have g2 : w6.frozen? ⟨N + 1, 2, none⟩ = false := frozen_of HQF.out; have HB6 := Lib.hid hb6; clear hb6))
                  refine bodyPost_ret (results_cell_row rfl _ _ (N + 1) 33 #[I 1, I i, I code] (0, 0) _ rfl (set3 _ _ _ _ _ _ _ _ _ HQF.out) Tryz.underlying33 rfl (by kernel_rfl)) rfl ?_
                  have hfin : Below N w w6 := (HFIN.out wr HBV.out).trans (HB6.out.mono (by omega))
                  exact ⟨rfl, ((hfin.setCell (by show _ ≤ N + 1; omega) _).setCell (by show _ ≤ N + 1; omega) _).setCell (by show _ ≤ N + 1; omega) _⟩
                | false =>
                  have HE3 : Hid (firstBad (rm 0) (sizeM P 1 - (i + 1)) (i + 1) = firstBad (rm 0) (sizeM P 1) 0) := by have := HE2.out; rw [e] at this; exact this
                  go_wp2_with (first | (go_at_call 61; refine HC1.out.mono ?_; rintro e w6 ⟨rfl, hb6⟩; have HB6 := Lib.hid hb6; clear hb6))
                  go_roundg (sizeM P 1 + 1 - (i + 1))
                  case measure => have := HN2.out; omega
                  case rel => exact ⟨i + 1, by omega, by first | go_num | (rw [IntWalk.wrap64_in _ (by omega)]; go_num), rfl, HE3, HV.out.trans (HB6.out.mono (by have := HV.out.size; have := lt_of_block HM.out; omega))⟩
              · obtain rfl : i = sizeM P 1 := by omega
                have hnone : firstBad (rm 0) (sizeM P 1) 0 = none := by have := HE.out; rw [Nat.sub_self, firstBad] at this; exact this.symm
                have HD3 : Hid (rulesFrom P rm (13 - (0 + 1)) (0 + 1) = rulesFrom P rm 13 0) := by have := HD2.out; rw [hnone] at this; exact this
                have HZ2 : Hid (∀ k', k' < 0 + 1 → ∀ i', i' < sizeM P ((ruleParts.getD k' 0 : Nat) : Int) → rm k' i' = 0) := Lib.hid fun k' hk' i' hi' => by
                  by_cases ek : k' = 0
                  · subst ek
                    exact firstBad_none hnone i' (Nat.zero_le _) (by rw [Nat.zero_add]; exact hi')
                  · exact HZE.out k' (by omega) i' hi'
                clear hnone f0 f1 f2 m0 m1 mf
                go_wp2_with fail
                go_roundg (14 - (0 + 1))
                case measure => have := HN.out; omega
                case rel => exact ⟨0 + 1, by omega, by first | rfl | go_num, rfl, HD3, HZ2, HBV.out⟩
          · have r0 : wr.cell? ⟨N + 3, 2, none⟩ = some (I 1) := hrc 2
            have r1 : wr.cell? ⟨N + 3, 3, none⟩ = some (.func (.func 62) #[] #[]) := hrc 3
            have HD2 : Hid ((match firstBad (rm 1) (sizeM P 1) 0 with | some (i, c) => some (((1 : Nat) : Int), i, c) | none => rulesFrom P rm (13 - (1 + 1)) (1 + 1)) = rulesFrom P rm 13 0) := HD.out
            have hpt := HTX.out wr HW.out
            clear hrc HD
            go_upto_region 10 with fail
            change Code.wp _ _ _ _ (wr.alloc (.cells #[I 1, .func (.func 62) #[] #[]] 84))
            have hM : (wr.alloc (.cells #[I 1, .func (.func 62) #[] #[]] 84)).heap[wr.heap.size]? = some (.cells #[I 1, .func (.func 62) #[] #[]] 84) := heap_alloc_new wr _
            have hb5 : Below (N + 4) w4 (wr.alloc (.cells #[I 1, .func (.func 62) #[] #[]] 84)) := HW.out.alloc hws _
            generalize (wr.alloc (.cells #[I 1, .func (.func 62) #[] #[]] 84)) = w5 at *
            generalize hMM : wr.heap.size = M at *
            have m0 : w5.cell? ⟨M, 0, none⟩ = some (I 1) := cell_of_row _ _ 0 _ _ _ hM
            have HM := Lib.hid hM
            have HB5 := Lib.hid hb5
            clear hM hb5 r0 r1 hpt
            go_wp2_with (first | (go_at_call 31; refine (size_any P _ _ _ (HTX.out w5 HB5.out)).mono ?_; rintro e w2 ⟨rfl, rfl⟩; dsimp only))
            clear m0
            go_loopg [32] (sizeM P 1 + 1) (fun n v wx => ∃ i : Nat, i ≤ sizeM P 1 ∧ v = .int .i64 i ∧ Hid (n = sizeM P 1 + 1 - i) ∧ Hid (firstBad (rm 1) (sizeM P 1 - i) i = firstBad (rm 1) (sizeM P 1) 0) ∧ Hid (Below (M + 1) w5 wx))
            case atStart => exact ⟨0, by omega, rfl, rfl, rfl, Below.refl _ _⟩
            case round =>
              obtain ⟨i, hi, rfl, HN2, HE, HV⟩ := hrel
              have hbv : Below (N + 4) w4 wr := HB5.out.trans (HV.out.mono (by omega))
              have HBV := Lib.hid hbv
              have hsm : sizeM P 1 ≤ 140737488355328 := HSZ500.out 1
              have mh := (HV.out.block M (by omega)).trans HM.out
              have m0 : wr.cell? ⟨M, 0, none⟩ = some (I 1) := cell_of_row _ _ 0 _ _ _ mh
              have m1 : wr.cell? ⟨M, 1, none⟩ = some (.func (.func 62) #[] #[]) := cell_of_row _ _ 1 _ _ _ mh
              have mf := HFX.out wr hbv
              have f0 : wr.cell? ⟨N + 1, 0, none⟩ = some (I 0) := cell_of_row _ _ 0 _ _ _ mf
              have f1 : wr.cell? ⟨N + 1, 1, none⟩ = some (I 0) := cell_of_row _ _ 1 _ _ _ mf
              have f2 : wr.cell? ⟨N + 1, 2, none⟩ = some (I 0) := cell_of_row _ _ 2 _ _ _ mf
              clear hbv mh
              by_cases hlt2 : i < sizeM P 1
              · have d3 : ((i : Int) < (sizeM P 1 : Int)) := by omega
                have HE2 : Hid ((if (rm 1 i != 0) = true then some (i, rm 1 i) else firstBad (rm 1) (sizeM P 1 - (i + 1)) (i + 1)) = firstBad (rm 1) (sizeM P 1) 0) := by
                  have := HE.out
                  obtain ⟨m, hm⟩ : ∃ m, sizeM P 1 - i = m + 1 := ⟨sizeM P 1 - i - 1, by omega⟩
                  rw [hm, firstBad] at this
                  rw [show sizeM P 1 - (i + 1) = m by omega]
                  exact this
                have HC1 : Hid (Calls Tryz.prog 62 #[ptr (N + 1 + 1), I i] wr fun e w' => e = .returned (I (rm 1 i)) ∧ Below wr.heap.size wr w') := Lib.hid (HRU.out (N + 1 + 1) wr 1 i (HTX.out wr HBV.out) (HGX.out wr HBV.out) rfl (by omega) HZE.out hlt2)
                have hwrs : N + 1 < wr.heap.size := lt_of_block mf
                have hwm : M < wr.heap.size := by have := HV.out.size; have := lt_of_block HM.out; omega
                have HMF := Lib.hid mf
                generalize rm 1 i = code at *
                clear mf HE
                cases e : (code != 0) with
                | true =>
                  obtain rfl : (((1 : Nat) : Int), (i : Int), code) = res := by
                    have h1 := HR.out
                    unfold checkM at h1
                    rw [HTM.out, ← HD2.out, ← HE2.out, e] at h1
                    exact h1
                  go_wp2_with (first | (go_at_call 62; refine HC1.out.mono ?_; rintro e w6 ⟨rfl, hb6⟩; have n0 := (hb6.cell (p := ⟨M, 0, none⟩) hwm).trans m0; have q0 := (hb6.cell (p := ⟨N + 1, 0, none⟩) hwrs).trans f0; have q1 := (hb6.cell (p := ⟨N + 1, 1, none⟩) hwrs).trans f1; have q2 := (hb6.cell (p := ⟨N + 1, 2, none⟩) hwrs).trans f2; have HQF := Lib.hid ((hb6.block _ hwrs).trans HMF.out); have g0 : w6.frozen? ⟨N + 1, 0, none⟩ = false := frozen_of HQF.out; have g1 : w6.frozen? ⟨N + 1, 1, none⟩ = false := frozen_of HQF.out; have g2 : w6.frozen? ⟨N + 1, 2, none⟩ = false := frozen_of HQF.out; have HB6 := Lib.hid hb6; clear hb6))
                  refine bodyPost_ret (results_cell_row rfl _ _ (N + 1) 33 #[I 1, I i, I code] (0, 0) _ rfl (set3 _ _ _ _ _ _ _ _ _ HQF.out) Tryz.underlying33 rfl (by kernel_rfl)) rfl ?_
                  have hfin : Below N w w6 := (HFIN.out wr HBV.out).trans (HB6.out.mono (by omega))
                  exact ⟨rfl, ((hfin.setCell (by show _ ≤ N + 1; omega) _).setCell (by show _ ≤ N + 1; omega) _).setCell (by show _ ≤ N + 1; omega) _⟩
                | false =>
                  have HE3 : Hid (firstBad (rm 1) (sizeM P 1 - (i + 1)) (i + 1) = firstBad (rm 1) (sizeM P 1) 0) := by have := HE2.out; rw [e] at this; exact this
                  go_wp2_with (first | (go_at_call 62; refine HC1.out.mono ?_; rintro e w6 ⟨rfl, hb6⟩; have HB6 := Lib.hid hb6; clear hb6))
                  go_roundg (sizeM P 1 + 1 - (i + 1))
                  case measure => have := HN2.out; omega
                  case rel => exact ⟨i + 1, by omega, by first | go_num | (rw [IntWalk.wrap64_in _ (by omega)]; go_num), rfl, HE3, HV.out.trans (HB6.out.mono (by have := HV.out.size; have := lt_of_block HM.out; omega))⟩
              · obtain rfl : i = sizeM P 1 := by omega
                have hnone : firstBad (rm 1) (sizeM P 1) 0 = none := by have := HE.out; rw [Nat.sub_self, firstBad] at this; exact this.symm
                have HD3 : Hid (rulesFrom P rm (13 - (1 + 1)) (1 + 1) = rulesFrom P rm 13 0) := by have := HD2.out; rw [hnone] at this; exact this
                have HZ2 : Hid (∀ k', k' < 1 + 1 → ∀ i', i' < sizeM P ((ruleParts.getD k' 0 : Nat) : Int) → rm k' i' = 0) := Lib.hid fun k' hk' i' hi' => by
                  by_cases ek : k' = 1
                  · subst ek
                    exact firstBad_none hnone i' (Nat.zero_le _) (by rw [Nat.zero_add]; exact hi')
                  · exact HZE.out k' (by omega) i' hi'
                clear hnone f0 f1 f2 m0 m1 mf
                go_wp2_with fail
                go_roundg (14 - (1 + 1))
                case measure => have := HN.out; omega
                case rel => exact ⟨1 + 1, by omega, by first | rfl | go_num, rfl, HD3, HZ2, HBV.out⟩
          · have r0 : wr.cell? ⟨N + 3, 4, none⟩ = some (I 1) := hrc 4
            have r1 : wr.cell? ⟨N + 3, 5, none⟩ = some (.func (.func 63) #[] #[]) := hrc 5
            have HD2 : Hid ((match firstBad (rm 2) (sizeM P 1) 0 with | some (i, c) => some (((1 : Nat) : Int), i, c) | none => rulesFrom P rm (13 - (2 + 1)) (2 + 1)) = rulesFrom P rm 13 0) := HD.out
            have hpt := HTX.out wr HW.out
            clear hrc HD
            go_upto_region 10 with fail
            change Code.wp _ _ _ _ (wr.alloc (.cells #[I 1, .func (.func 63) #[] #[]] 84))
            have hM : (wr.alloc (.cells #[I 1, .func (.func 63) #[] #[]] 84)).heap[wr.heap.size]? = some (.cells #[I 1, .func (.func 63) #[] #[]] 84) := heap_alloc_new wr _
            have hb5 : Below (N + 4) w4 (wr.alloc (.cells #[I 1, .func (.func 63) #[] #[]] 84)) := HW.out.alloc hws _
            generalize (wr.alloc (.cells #[I 1, .func (.func 63) #[] #[]] 84)) = w5 at *
            generalize hMM : wr.heap.size = M at *
            have m0 : w5.cell? ⟨M, 0, none⟩ = some (I 1) := cell_of_row _ _ 0 _ _ _ hM
            have HM := Lib.hid hM
            have HB5 := Lib.hid hb5
            clear hM hb5 r0 r1 hpt
            go_wp2_with (first | (go_at_call 31; refine (size_any P _ _ _ (HTX.out w5 HB5.out)).mono ?_; rintro e w2 ⟨rfl, rfl⟩; dsimp only))
            clear m0
            go_loopg [32] (sizeM P 1 + 1) (fun n v wx => ∃ i : Nat, i ≤ sizeM P 1 ∧ v = .int .i64 i ∧ Hid (n = sizeM P 1 + 1 - i) ∧ Hid (firstBad (rm 2) (sizeM P 1 - i) i = firstBad (rm 2) (sizeM P 1) 0) ∧ Hid (Below (M + 1) w5 wx))
            case atStart => exact ⟨0, by omega, rfl, rfl, rfl, Below.refl _ _⟩
            case round =>
              obtain ⟨i, hi, rfl, HN2, HE, HV⟩ := hrel
              have hbv : Below (N + 4) w4 wr := HB5.out.trans (HV.out.mono (by omega))
              have HBV := Lib.hid hbv
              have hsm : sizeM P 1 ≤ 140737488355328 := HSZ500.out 1
              have mh := (HV.out.block M (by omega)).trans HM.out
              have m0 : wr.cell? ⟨M, 0, none⟩ = some (I 1) := cell_of_row _ _ 0 _ _ _ mh
              have m1 : wr.cell? ⟨M, 1, none⟩ = some (.func (.func 63) #[] #[]) := cell_of_row _ _ 1 _ _ _ mh
              have mf := HFX.out wr hbv
              have f0 : wr.cell? ⟨N + 1, 0, none⟩ = some (I 0) := cell_of_row _ _ 0 _ _ _ mf
              have f1 : wr.cell? ⟨N + 1, 1, none⟩ = some (I 0) := cell_of_row _ _ 1 _ _ _ mf
              have f2 : wr.cell? ⟨N + 1, 2, none⟩ = some (I 0) := cell_of_row _ _ 2 _ _ _ mf
              clear hbv mh
              by_cases hlt2 : i < sizeM P 1
              · have d3 : ((i : Int) < (sizeM P 1 : Int)) := by omega
                have HE2 : Hid ((if (rm 2 i != 0) = true then some (i, rm 2 i) else firstBad (rm 2) (sizeM P 1 - (i + 1)) (i + 1)) = firstBad (rm 2) (sizeM P 1) 0) := by
                  have := HE.out
                  obtain ⟨m, hm⟩ : ∃ m, sizeM P 1 - i = m + 1 := ⟨sizeM P 1 - i - 1, by omega⟩
                  rw [hm, firstBad] at this
                  rw [show sizeM P 1 - (i + 1) = m by omega]
                  exact this
                have HC1 : Hid (Calls Tryz.prog 63 #[ptr (N + 1 + 1), I i] wr fun e w' => e = .returned (I (rm 2 i)) ∧ Below wr.heap.size wr w') := Lib.hid (HRU.out (N + 1 + 1) wr 2 i (HTX.out wr HBV.out) (HGX.out wr HBV.out) rfl (by omega) HZE.out hlt2)
                have hwrs : N + 1 < wr.heap.size := lt_of_block mf
                have hwm : M < wr.heap.size := by have := HV.out.size; have := lt_of_block HM.out; omega
                have HMF := Lib.hid mf
                generalize rm 2 i = code at *
                clear mf HE
                cases e : (code != 0) with
                | true =>
                  obtain rfl : (((1 : Nat) : Int), (i : Int), code) = res := by
                    have h1 := HR.out
                    unfold checkM at h1
                    rw [HTM.out, ← HD2.out, ← HE2.out, e] at h1
                    exact h1
                  go_wp2_with (first | (go_at_call 63; refine HC1.out.mono ?_; rintro e w6 ⟨rfl, hb6⟩; have n0 := (hb6.cell (p := ⟨M, 0, none⟩) hwm).trans m0; have q0 := (hb6.cell (p := ⟨N + 1, 0, none⟩) hwrs).trans f0; have q1 := (hb6.cell (p := ⟨N + 1, 1, none⟩) hwrs).trans f1; have q2 := (hb6.cell (p := ⟨N + 1, 2, none⟩) hwrs).trans f2; have HQF := Lib.hid ((hb6.block _ hwrs).trans HMF.out); have g0 : w6.frozen? ⟨N + 1, 0, none⟩ = false := frozen_of HQF.out; have g1 : w6.frozen? ⟨N + 1, 1, none⟩ = false := frozen_of HQF.out; have g2 : w6.frozen? ⟨N + 1, 2, none⟩ = false := frozen_of HQF.out; have HB6 := Lib.hid hb6; clear hb6))
                  refine bodyPost_ret (results_cell_row rfl _ _ (N + 1) 33 #[I 1, I i, I code] (0, 0) _ rfl (set3 _ _ _ _ _ _ _ _ _ HQF.out) Tryz.underlying33 rfl (by kernel_rfl)) rfl ?_
                  have hfin : Below N w w6 := (HFIN.out wr HBV.out).trans (HB6.out.mono (by omega))
                  exact ⟨rfl, ((hfin.setCell (by show _ ≤ N + 1; omega) _).setCell (by show _ ≤ N + 1; omega) _).setCell (by show _ ≤ N + 1; omega) _⟩
                | false =>
                  have HE3 : Hid (firstBad (rm 2) (sizeM P 1 - (i + 1)) (i + 1) = firstBad (rm 2) (sizeM P 1) 0) := by have := HE2.out; rw [e] at this; exact this
                  go_wp2_with (first | (go_at_call 63; refine HC1.out.mono ?_; rintro e w6 ⟨rfl, hb6⟩; have HB6 := Lib.hid hb6; clear hb6))
                  go_roundg (sizeM P 1 + 1 - (i + 1))
                  case measure => have := HN2.out; omega
                  case rel => exact ⟨i + 1, by omega, by first | go_num | (rw [IntWalk.wrap64_in _ (by omega)]; go_num), rfl, HE3, HV.out.trans (HB6.out.mono (by have := HV.out.size; have := lt_of_block HM.out; omega))⟩
              · obtain rfl : i = sizeM P 1 := by omega
                have hnone : firstBad (rm 2) (sizeM P 1) 0 = none := by have := HE.out; rw [Nat.sub_self, firstBad] at this; exact this.symm
                have HD3 : Hid (rulesFrom P rm (13 - (2 + 1)) (2 + 1) = rulesFrom P rm 13 0) := by have := HD2.out; rw [hnone] at this; exact this
                have HZ2 : Hid (∀ k', k' < 2 + 1 → ∀ i', i' < sizeM P ((ruleParts.getD k' 0 : Nat) : Int) → rm k' i' = 0) := Lib.hid fun k' hk' i' hi' => by
                  by_cases ek : k' = 2
                  · subst ek
                    exact firstBad_none hnone i' (Nat.zero_le _) (by rw [Nat.zero_add]; exact hi')
                  · exact HZE.out k' (by omega) i' hi'
                clear hnone f0 f1 f2 m0 m1 mf
                go_wp2_with fail
                go_roundg (14 - (2 + 1))
                case measure => have := HN.out; omega
                case rel => exact ⟨2 + 1, by omega, by first | rfl | go_num, rfl, HD3, HZ2, HBV.out⟩
          · have r0 : wr.cell? ⟨N + 3, 6, none⟩ = some (I 1) := hrc 6
            have r1 : wr.cell? ⟨N + 3, 7, none⟩ = some (.func (.func 64) #[] #[]) := hrc 7
            have HD2 : Hid ((match firstBad (rm 3) (sizeM P 1) 0 with | some (i, c) => some (((1 : Nat) : Int), i, c) | none => rulesFrom P rm (13 - (3 + 1)) (3 + 1)) = rulesFrom P rm 13 0) := HD.out
            have hpt := HTX.out wr HW.out
            clear hrc HD
            go_upto_region 10 with fail
            change Code.wp _ _ _ _ (wr.alloc (.cells #[I 1, .func (.func 64) #[] #[]] 84))
            have hM : (wr.alloc (.cells #[I 1, .func (.func 64) #[] #[]] 84)).heap[wr.heap.size]? = some (.cells #[I 1, .func (.func 64) #[] #[]] 84) := heap_alloc_new wr _
            have hb5 : Below (N + 4) w4 (wr.alloc (.cells #[I 1, .func (.func 64) #[] #[]] 84)) := HW.out.alloc hws _
            generalize (wr.alloc (.cells #[I 1, .func (.func 64) #[] #[]] 84)) = w5 at *
            generalize hMM : wr.heap.size = M at *
            have m0 : w5.cell? ⟨M, 0, none⟩ = some (I 1) := cell_of_row _ _ 0 _ _ _ hM
            have HM := Lib.hid hM
            have HB5 := Lib.hid hb5
            clear hM hb5 r0 r1 hpt
            go_wp2_with (first | (go_at_call 31; refine (size_any P _ _ _ (HTX.out w5 HB5.out)).mono ?_; rintro e w2 ⟨rfl, rfl⟩; dsimp only))
            clear m0
            go_loopg [32] (sizeM P 1 + 1) (fun n v wx => ∃ i : Nat, i ≤ sizeM P 1 ∧ v = .int .i64 i ∧ Hid (n = sizeM P 1 + 1 - i) ∧ Hid (firstBad (rm 3) (sizeM P 1 - i) i = firstBad (rm 3) (sizeM P 1) 0) ∧ Hid (Below (M + 1) w5 wx))
            case atStart => exact ⟨0, by omega, rfl, rfl, rfl, Below.refl _ _⟩
            case round =>
              obtain ⟨i, hi, rfl, HN2, HE, HV⟩ := hrel
              have hbv : Below (N + 4) w4 wr := HB5.out.trans (HV.out.mono (by omega))
              have HBV := Lib.hid hbv
              have hsm : sizeM P 1 ≤ 140737488355328 := HSZ500.out 1
              have mh := (HV.out.block M (by omega)).trans HM.out
              have m0 : wr.cell? ⟨M, 0, none⟩ = some (I 1) := cell_of_row _ _ 0 _ _ _ mh
              have m1 : wr.cell? ⟨M, 1, none⟩ = some (.func (.func 64) #[] #[]) := cell_of_row _ _ 1 _ _ _ mh
              have mf := HFX.out wr hbv
              have f0 : wr.cell? ⟨N + 1, 0, none⟩ = some (I 0) := cell_of_row _ _ 0 _ _ _ mf
              have f1 : wr.cell? ⟨N + 1, 1, none⟩ = some (I 0) := cell_of_row _ _ 1 _ _ _ mf
              have f2 : wr.cell? ⟨N + 1, 2, none⟩ = some (I 0) := cell_of_row _ _ 2 _ _ _ mf
              clear hbv mh
              by_cases hlt2 : i < sizeM P 1
              · have d3 : ((i : Int) < (sizeM P 1 : Int)) := by omega
                have HE2 : Hid ((if (rm 3 i != 0) = true then some (i, rm 3 i) else firstBad (rm 3) (sizeM P 1 - (i + 1)) (i + 1)) = firstBad (rm 3) (sizeM P 1) 0) := by
                  have := HE.out
                  obtain ⟨m, hm⟩ : ∃ m, sizeM P 1 - i = m + 1 := ⟨sizeM P 1 - i - 1, by omega⟩
                  rw [hm, firstBad] at this
                  rw [show sizeM P 1 - (i + 1) = m by omega]
                  exact this
                have HC1 : Hid (Calls Tryz.prog 64 #[ptr (N + 1 + 1), I i] wr fun e w' => e = .returned (I (rm 3 i)) ∧ Below wr.heap.size wr w') := Lib.hid (HRU.out (N + 1 + 1) wr 3 i (HTX.out wr HBV.out) (HGX.out wr HBV.out) rfl (by omega) HZE.out hlt2)
                have hwrs : N + 1 < wr.heap.size := lt_of_block mf
                have hwm : M < wr.heap.size := by have := HV.out.size; have := lt_of_block HM.out; omega
                have HMF := Lib.hid mf
                generalize rm 3 i = code at *
                clear mf HE
                cases e : (code != 0) with
                | true =>
                  obtain rfl : (((1 : Nat) : Int), (i : Int), code) = res := by
                    have h1 := HR.out
                    unfold checkM at h1
                    rw [HTM.out, ← HD2.out, ← HE2.out, e] at h1
                    exact h1
                  go_wp2_with (first | (go_at_call 64; refine HC1.out.mono ?_; rintro e w6 ⟨rfl, hb6⟩; have n0 := (hb6.cell (p := ⟨M, 0, none⟩) hwm).trans m0; have q0 := (hb6.cell (p := ⟨N + 1, 0, none⟩) hwrs).trans f0; have q1 := (hb6.cell (p := ⟨N + 1, 1, none⟩) hwrs).trans f1; have q2 := (hb6.cell (p := ⟨N + 1, 2, none⟩) hwrs).trans f2; have HQF := Lib.hid ((hb6.block _ hwrs).trans HMF.out); have g0 : w6.frozen? ⟨N + 1, 0, none⟩ = false := frozen_of HQF.out; have g1 : w6.frozen? ⟨N + 1, 1, none⟩ = false := frozen_of HQF.out; have g2 : w6.frozen? ⟨N + 1, 2, none⟩ = false := frozen_of HQF.out; have HB6 := Lib.hid hb6; clear hb6))
                  refine bodyPost_ret (results_cell_row rfl _ _ (N + 1) 33 #[I 1, I i, I code] (0, 0) _ rfl (set3 _ _ _ _ _ _ _ _ _ HQF.out) Tryz.underlying33 rfl (by kernel_rfl)) rfl ?_
                  have hfin : Below N w w6 := (HFIN.out wr HBV.out).trans (HB6.out.mono (by omega))
                  exact ⟨rfl, ((hfin.setCell (by show _ ≤ N + 1; omega) _).setCell (by show _ ≤ N + 1; omega) _).setCell (by show _ ≤ N + 1; omega) _⟩
                | false =>
                  have HE3 : Hid (firstBad (rm 3) (sizeM P 1 - (i + 1)) (i + 1) = firstBad (rm 3) (sizeM P 1) 0) := by have := HE2.out; rw [e] at this; exact this
                  go_wp2_with (first | (go_at_call 64; refine HC1.out.mono ?_; rintro e w6 ⟨rfl, hb6⟩; have HB6 := Lib.hid hb6; clear hb6))
                  go_roundg (sizeM P 1 + 1 - (i + 1))
                  case measure => have := HN2.out; omega
                  case rel => exact ⟨i + 1, by omega, by first | go_num | (rw [IntWalk.wrap64_in _ (by omega)]; go_num), rfl, HE3, HV.out.trans (HB6.out.mono (by have := HV.out.size; have := lt_of_block HM.out; omega))⟩
              · obtain rfl : i = sizeM P 1 := by omega
                have hnone : firstBad (rm 3) (sizeM P 1) 0 = none := by have := HE.out; rw [Nat.sub_self, firstBad] at this; exact this.symm
                have HD3 : Hid (rulesFrom P rm (13 - (3 + 1)) (3 + 1) = rulesFrom P rm 13 0) := by have := HD2.out; rw [hnone] at this; exact this
                have HZ2 : Hid (∀ k', k' < 3 + 1 → ∀ i', i' < sizeM P ((ruleParts.getD k' 0 : Nat) : Int) → rm k' i' = 0) := Lib.hid fun k' hk' i' hi' => by
                  by_cases ek : k' = 3
                  · subst ek
                    exact firstBad_none hnone i' (Nat.zero_le _) (by rw [Nat.zero_add]; exact hi')
                  · exact HZE.out k' (by omega) i' hi'
                clear hnone f0 f1 f2 m0 m1 mf
                go_wp2_with fail
                go_roundg (14 - (3 + 1))
                case measure => have := HN.out; omega
                case rel => exact ⟨3 + 1, by omega, by first | rfl | go_num, rfl, HD3, HZ2, HBV.out⟩
          · have r0 : wr.cell? ⟨N + 3, 8, none⟩ = some (I 2) := hrc 8
            have r1 : wr.cell? ⟨N + 3, 9, none⟩ = some (.func (.func 65) #[] #[]) := hrc 9
            have HD2 : Hid ((match firstBad (rm 4) (sizeM P 2) 0 with | some (i, c) => some (((2 : Nat) : Int), i, c) | none => rulesFrom P rm (13 - (4 + 1)) (4 + 1)) = rulesFrom P rm 13 0) := HD.out
            have hpt := HTX.out wr HW.out
            clear hrc HD
            go_upto_region 10 with fail
            change Code.wp _ _ _ _ (wr.alloc (.cells #[I 2, .func (.func 65) #[] #[]] 84))
            have hM : (wr.alloc (.cells #[I 2, .func (.func 65) #[] #[]] 84)).heap[wr.heap.size]? = some (.cells #[I 2, .func (.func 65) #[] #[]] 84) := heap_alloc_new wr _
            have hb5 : Below (N + 4) w4 (wr.alloc (.cells #[I 2, .func (.func 65) #[] #[]] 84)) := HW.out.alloc hws _
            generalize (wr.alloc (.cells #[I 2, .func (.func 65) #[] #[]] 84)) = w5 at *
            generalize hMM : wr.heap.size = M at *
            have m0 : w5.cell? ⟨M, 0, none⟩ = some (I 2) := cell_of_row _ _ 0 _ _ _ hM
            have HM := Lib.hid hM
            have HB5 := Lib.hid hb5
            clear hM hb5 r0 r1 hpt
            go_wp2_with (first | (go_at_call 31; refine (size_any P _ _ _ (HTX.out w5 HB5.out)).mono ?_; rintro e w2 ⟨rfl, rfl⟩; dsimp only))
            clear m0
            go_loopg [32] (sizeM P 2 + 1) (fun n v wx => ∃ i : Nat, i ≤ sizeM P 2 ∧ v = .int .i64 i ∧ Hid (n = sizeM P 2 + 1 - i) ∧ Hid (firstBad (rm 4) (sizeM P 2 - i) i = firstBad (rm 4) (sizeM P 2) 0) ∧ Hid (Below (M + 1) w5 wx))
            case atStart => exact ⟨0, by omega, rfl, rfl, rfl, Below.refl _ _⟩
            case round =>
              obtain ⟨i, hi, rfl, HN2, HE, HV⟩ := hrel
              have hbv : Below (N + 4) w4 wr := HB5.out.trans (HV.out.mono (by omega))
              have HBV := Lib.hid hbv
              have hsm : sizeM P 2 ≤ 140737488355328 := HSZ500.out 2
              have mh := (HV.out.block M (by omega)).trans HM.out
              have m0 : wr.cell? ⟨M, 0, none⟩ = some (I 2) := cell_of_row _ _ 0 _ _ _ mh
              have m1 : wr.cell? ⟨M, 1, none⟩ = some (.func (.func 65) #[] #[]) := cell_of_row _ _ 1 _ _ _ mh
              have mf := HFX.out wr hbv
              have f0 : wr.cell? ⟨N + 1, 0, none⟩ = some (I 0) := cell_of_row _ _ 0 _ _ _ mf
              have f1 : wr.cell? ⟨N + 1, 1, none⟩ = some (I 0) := cell_of_row _ _ 1 _ _ _ mf
              have f2 : wr.cell? ⟨N + 1, 2, none⟩ = some (I 0) := cell_of_row _ _ 2 _ _ _ mf
              clear hbv mh
              by_cases hlt2 : i < sizeM P 2
              · have d3 : ((i : Int) < (sizeM P 2 : Int)) := by omega
                have HE2 : Hid ((if (rm 4 i != 0) = true then some (i, rm 4 i) else firstBad (rm 4) (sizeM P 2 - (i + 1)) (i + 1)) = firstBad (rm 4) (sizeM P 2) 0) := by
                  have := HE.out
                  obtain ⟨m, hm⟩ : ∃ m, sizeM P 2 - i = m + 1 := ⟨sizeM P 2 - i - 1, by omega⟩
                  rw [hm, firstBad] at this
                  rw [show sizeM P 2 - (i + 1) = m by omega]
                  exact this
                have HC1 : Hid (Calls Tryz.prog 65 #[ptr (N + 1 + 1), I i] wr fun e w' => e = .returned (I (rm 4 i)) ∧ Below wr.heap.size wr w') := Lib.hid (HRU.out (N + 1 + 1) wr 4 i (HTX.out wr HBV.out) (HGX.out wr HBV.out) rfl (by omega) HZE.out hlt2)
                have hwrs : N + 1 < wr.heap.size := lt_of_block mf
                have hwm : M < wr.heap.size := by have := HV.out.size; have := lt_of_block HM.out; omega
                have HMF := Lib.hid mf
                generalize rm 4 i = code at *
                clear mf HE
                cases e : (code != 0) with
                | true =>
                  obtain rfl : (((2 : Nat) : Int), (i : Int), code) = res := by
                    have h1 := HR.out
                    unfold checkM at h1
                    rw [HTM.out, ← HD2.out, ← HE2.out, e] at h1
                    exact h1
                  go_wp2_with (first | (go_at_call 65; refine HC1.out.mono ?_; rintro e w6 ⟨rfl, hb6⟩; have n0 := (hb6.cell (p := ⟨M, 0, none⟩) hwm).trans m0; have q0 := (hb6.cell (p := ⟨N + 1, 0, none⟩) hwrs).trans f0; have q1 := (hb6.cell (p := ⟨N + 1, 1, none⟩) hwrs).trans f1; have q2 := (hb6.cell (p := ⟨N + 1, 2, none⟩) hwrs).trans f2; have HQF := Lib.hid ((hb6.block _ hwrs).trans HMF.out); have g0 : w6.frozen? ⟨N + 1, 0, none⟩ = false := frozen_of HQF.out; have g1 : w6.frozen? ⟨N + 1, 1, none⟩ = false := frozen_of HQF.out; have g2 : w6.frozen? ⟨N + 1, 2, none⟩ = false := frozen_of HQF.out; have HB6 := Lib.hid hb6; clear hb6))
                  refine bodyPost_ret (results_cell_row rfl _ _ (N + 1) 33 #[I 2, I i, I code] (0, 0) _ rfl (set3 _ _ _ _ _ _ _ _ _ HQF.out) Tryz.underlying33 rfl (by kernel_rfl)) rfl ?_
                  have hfin : Below N w w6 := (HFIN.out wr HBV.out).trans (HB6.out.mono (by omega))
                  exact ⟨rfl, ((hfin.setCell (by show _ ≤ N + 1; omega) _).setCell (by show _ ≤ N + 1; omega) _).setCell (by show _ ≤ N + 1; omega) _⟩
                | false =>
                  have HE3 : Hid (firstBad (rm 4) (sizeM P 2 - (i + 1)) (i + 1) = firstBad (rm 4) (sizeM P 2) 0) := by have := HE2.out; rw [e] at this; exact this
                  go_wp2_with (first | (go_at_call 65; refine HC1.out.mono ?_; rintro e w6 ⟨rfl, hb6⟩; have HB6 := Lib.hid hb6; clear hb6))
                  go_roundg (sizeM P 2 + 1 - (i + 1))
                  case measure => have := HN2.out; omega
                  case rel => exact ⟨i + 1, by omega, by first | go_num | (rw [IntWalk.wrap64_in _ (by omega)]; go_num), rfl, HE3, HV.out.trans (HB6.out.mono (by have := HV.out.size; have := lt_of_block HM.out; omega))⟩
              · obtain rfl : i = sizeM P 2 := by omega
                have hnone : firstBad (rm 4) (sizeM P 2) 0 = none := by have := HE.out; rw [Nat.sub_self, firstBad] at this; exact this.symm
                have HD3 : Hid (rulesFrom P rm (13 - (4 + 1)) (4 + 1) = rulesFrom P rm 13 0) := by have := HD2.out; rw [hnone] at this; exact this
                have HZ2 : Hid (∀ k', k' < 4 + 1 → ∀ i', i' < sizeM P ((ruleParts.getD k' 0 : Nat) : Int) → rm k' i' = 0) := Lib.hid fun k' hk' i' hi' => by
                  by_cases ek : k' = 4
                  · subst ek
                    exact firstBad_none hnone i' (Nat.zero_le _) (by rw [Nat.zero_add]; exact hi')
                  · exact HZE.out k' (by omega) i' hi'
                clear hnone f0 f1 f2 m0 m1 mf
                go_wp2_with fail
                go_roundg (14 - (4 + 1))
                case measure => have := HN.out; omega
                case rel => exact ⟨4 + 1, by omega, by first | rfl | go_num, rfl, HD3, HZ2, HBV.out⟩
          · have r0 : wr.cell? ⟨N + 3, 10, none⟩ = some (I 3) := hrc 10
            have r1 : wr.cell? ⟨N + 3, 11, none⟩ = some (.func (.func 66) #[] #[]) := hrc 11
            have HD2 : Hid ((match firstBad (rm 5) (sizeM P 3) 0 with | some (i, c) => some (((3 : Nat) : Int), i, c) | none => rulesFrom P rm (13 - (5 + 1)) (5 + 1)) = rulesFrom P rm 13 0) := HD.out
            have hpt := HTX.out wr HW.out
            clear hrc HD
            go_upto_region 10 with fail
            change Code.wp _ _ _ _ (wr.alloc (.cells #[I 3, .func (.func 66) #[] #[]] 84))
            have hM : (wr.alloc (.cells #[I 3, .func (.func 66) #[] #[]] 84)).heap[wr.heap.size]? = some (.cells #[I 3, .func (.func 66) #[] #[]] 84) := heap_alloc_new wr _
            have hb5 : Below (N + 4) w4 (wr.alloc (.cells #[I 3, .func (.func 66) #[] #[]] 84)) := HW.out.alloc hws _
            generalize (wr.alloc (.cells #[I 3, .func (.func 66) #[] #[]] 84)) = w5 at *
            generalize hMM : wr.heap.size = M at *
            have m0 : w5.cell? ⟨M, 0, none⟩ = some (I 3) := cell_of_row _ _ 0 _ _ _ hM
            have HM := Lib.hid hM
            have HB5 := Lib.hid hb5
            clear hM hb5 r0 r1 hpt
            go_wp2_with (first | (go_at_call 31; refine (size_any P _ _ _ (HTX.out w5 HB5.out)).mono ?_; rintro e w2 ⟨rfl, rfl⟩; dsimp only))
            clear m0
            go_loopg [32] (sizeM P 3 + 1) (fun n v wx => ∃ i : Nat, i ≤ sizeM P 3 ∧ v = .int .i64 i ∧ Hid (n = sizeM P 3 + 1 - i) ∧ Hid (firstBad (rm 5) (sizeM P 3 - i) i = firstBad (rm 5) (sizeM P 3) 0) ∧ Hid (Below (M + 1) w5 wx))
            case atStart => exact ⟨0, by omega, rfl, rfl, rfl, Below.refl _ _⟩
            case round =>
              obtain ⟨i, hi, rfl, HN2, HE, HV⟩ := hrel
              have hbv : Below (N + 4) w4 wr := HB5.out.trans (HV.out.mono (by omega))
              have HBV := Lib.hid hbv
              have hsm : sizeM P 3 ≤ 140737488355328 := HSZ500.out 3
              have mh := (HV.out.block M (by omega)).trans HM.out
              have m0 : wr.cell? ⟨M, 0, none⟩ = some (I 3) := cell_of_row _ _ 0 _ _ _ mh
              have m1 : wr.cell? ⟨M, 1, none⟩ = some (.func (.func 66) #[] #[]) := cell_of_row _ _ 1 _ _ _ mh
              have mf := HFX.out wr hbv
              have f0 : wr.cell? ⟨N + 1, 0, none⟩ = some (I 0) := cell_of_row _ _ 0 _ _ _ mf
              have f1 : wr.cell? ⟨N + 1, 1, none⟩ = some (I 0) := cell_of_row _ _ 1 _ _ _ mf
              have f2 : wr.cell? ⟨N + 1, 2, none⟩ = some (I 0) := cell_of_row _ _ 2 _ _ _ mf
              clear hbv mh
              by_cases hlt2 : i < sizeM P 3
              · have d3 : ((i : Int) < (sizeM P 3 : Int)) := by omega
                have HE2 : Hid ((if (rm 5 i != 0) = true then some (i, rm 5 i) else firstBad (rm 5) (sizeM P 3 - (i + 1)) (i + 1)) = firstBad (rm 5) (sizeM P 3) 0) := by
                  have := HE.out
                  obtain ⟨m, hm⟩ : ∃ m, sizeM P 3 - i = m + 1 := ⟨sizeM P 3 - i - 1, by omega⟩
                  rw [hm, firstBad] at this
                  rw [show sizeM P 3 - (i + 1) = m by omega]
                  exact this
                have HC1 : Hid (Calls Tryz.prog 66 #[ptr (N + 1 + 1), I i] wr fun e w' => e = .returned (I (rm 5 i)) ∧ Below wr.heap.size wr w') := Lib.hid (HRU.out (N + 1 + 1) wr 5 i (HTX.out wr HBV.out) (HGX.out wr HBV.out) rfl (by omega) HZE.out hlt2)
                have hwrs : N + 1 < wr.heap.size := lt_of_block mf
                have hwm : M < wr.heap.size := by have := HV.out.size; have := lt_of_block HM.out; omega
                have HMF := Lib.hid mf
                generalize rm 5 i = code at *
                clear mf HE
                cases e : (code != 0) with
                | true =>
                  obtain rfl : (((3 : Nat) : Int), (i : Int), code) = res := by
                    have h1 := HR.out
                    unfold checkM at h1
                    rw [HTM.out, ← HD2.out, ← HE2.out, e] at h1
                    exact h1
                  go_wp2_with (first | (go_at_call 66; refine HC1.out.mono ?_; rintro e w6 ⟨rfl, hb6⟩; have n0 := (hb6.cell (p := ⟨M, 0, none⟩) hwm).trans m0; have q0 := (hb6.cell (p := ⟨N + 1, 0, none⟩) hwrs).trans f0; have q1 := (hb6.cell (p := ⟨N + 1, 1, none⟩) hwrs).trans f1; have q2 := (hb6.cell (p := ⟨N + 1, 2, none⟩) hwrs).trans f2; have HQF := Lib.hid ((hb6.block _ hwrs).trans HMF.out); have g0 : w6.frozen? ⟨N + 1, 0, none⟩ = false := frozen_of HQF.out; have g1 : w6.frozen? ⟨N + 1, 1, none⟩ = false := frozen_of HQF.out; have g2 : w6.frozen? ⟨N + 1, 2, none⟩ = false := frozen_of HQF.out; have HB6 := Lib.hid hb6; clear hb6))
                  refine bodyPost_ret (results_cell_row rfl _ _ (N + 1) 33 #[I 3, I i, I code] (0, 0) _ rfl (set3 _ _ _ _ _ _ _ _ _ HQF.out) Tryz.underlying33 rfl (by kernel_rfl)) rfl ?_
                  have hfin : Below N w w6 := (HFIN.out wr HBV.out).trans (HB6.out.mono (by omega))
                  exact ⟨rfl, ((hfin.setCell (by show _ ≤ N + 1; omega) _).setCell (by show _ ≤ N + 1; omega) _).setCell (by show _ ≤ N + 1; omega) _⟩
                | false =>
                  have HE3 : Hid (firstBad (rm 5) (sizeM P 3 - (i + 1)) (i + 1) = firstBad (rm 5) (sizeM P 3) 0) := by have := HE2.out; rw [e] at this; exact this
                  go_wp2_with (first | (go_at_call 66; refine HC1.out.mono ?_; rintro e w6 ⟨rfl, hb6⟩; have HB6 := Lib.hid hb6; clear hb6))
                  go_roundg (sizeM P 3 + 1 - (i + 1))
                  case measure => have := HN2.out; omega
                  case rel => exact ⟨i + 1, by omega, by first | go_num | (rw [IntWalk.wrap64_in _ (by omega)]; go_num), rfl, HE3, HV.out.trans (HB6.out.mono (by have := HV.out.size; have := lt_of_block HM.out; omega))⟩
              · obtain rfl : i = sizeM P 3 := by omega
                have hnone : firstBad (rm 5) (sizeM P 3) 0 = none := by have := HE.out; rw [Nat.sub_self, firstBad] at this; exact this.symm
                have HD3 : Hid (rulesFrom P rm (13 - (5 + 1)) (5 + 1) = rulesFrom P rm 13 0) := by have := HD2.out; rw [hnone] at this; exact this
                have HZ2 : Hid (∀ k', k' < 5 + 1 → ∀ i', i' < sizeM P ((ruleParts.getD k' 0 : Nat) : Int) → rm k' i' = 0) := Lib.hid fun k' hk' i' hi' => by
                  by_cases ek : k' = 5
                  · subst ek
                    exact firstBad_none hnone i' (Nat.zero_le _) (by rw [Nat.zero_add]; exact hi')
                  · exact HZE.out k' (by omega) i' hi'
                clear hnone f0 f1 f2 m0 m1 mf
                go_wp2_with fail
                go_roundg (14 - (5 + 1))
                case measure => have := HN.out; omega
                case rel => exact ⟨5 + 1, by omega, by first | rfl | go_num, rfl, HD3, HZ2, HBV.out⟩
          · have r0 : wr.cell? ⟨N + 3, 12, none⟩ = some (I 4) := hrc 12
            have r1 : wr.cell? ⟨N + 3, 13, none⟩ = some (.func (.func 67) #[] #[]) := hrc 13
            have HD2 : Hid ((match firstBad (rm 6) (sizeM P 4) 0 with | some (i, c) => some (((4 : Nat) : Int), i, c) | none => rulesFrom P rm (13 - (6 + 1)) (6 + 1)) = rulesFrom P rm 13 0) := HD.out
            have hpt := HTX.out wr HW.out
            clear hrc HD
            go_upto_region 10 with fail
            change Code.wp _ _ _ _ (wr.alloc (.cells #[I 4, .func (.func 67) #[] #[]] 84))
            have hM : (wr.alloc (.cells #[I 4, .func (.func 67) #[] #[]] 84)).heap[wr.heap.size]? = some (.cells #[I 4, .func (.func 67) #[] #[]] 84) := heap_alloc_new wr _
            have hb5 : Below (N + 4) w4 (wr.alloc (.cells #[I 4, .func (.func 67) #[] #[]] 84)) := HW.out.alloc hws _
            generalize (wr.alloc (.cells #[I 4, .func (.func 67) #[] #[]] 84)) = w5 at *
            generalize hMM : wr.heap.size = M at *
            have m0 : w5.cell? ⟨M, 0, none⟩ = some (I 4) := cell_of_row _ _ 0 _ _ _ hM
            have HM := Lib.hid hM
            have HB5 := Lib.hid hb5
            clear hM hb5 r0 r1 hpt
            go_wp2_with (first | (go_at_call 31; refine (size_any P _ _ _ (HTX.out w5 HB5.out)).mono ?_; rintro e w2 ⟨rfl, rfl⟩; dsimp only))
            clear m0
            go_loopg [32] (sizeM P 4 + 1) (fun n v wx => ∃ i : Nat, i ≤ sizeM P 4 ∧ v = .int .i64 i ∧ Hid (n = sizeM P 4 + 1 - i) ∧ Hid (firstBad (rm 6) (sizeM P 4 - i) i = firstBad (rm 6) (sizeM P 4) 0) ∧ Hid (Below (M + 1) w5 wx))
            case atStart => exact ⟨0, by omega, rfl, rfl, rfl, Below.refl _ _⟩
            case round =>
              obtain ⟨i, hi, rfl, HN2, HE, HV⟩ := hrel
              have hbv : Below (N + 4) w4 wr := HB5.out.trans (HV.out.mono (by omega))
              have HBV := Lib.hid hbv
              have hsm : sizeM P 4 ≤ 140737488355328 := HSZ500.out 4
              have mh := (HV.out.block M (by omega)).trans HM.out
              have m0 : wr.cell? ⟨M, 0, none⟩ = some (I 4) := cell_of_row _ _ 0 _ _ _ mh
              have m1 : wr.cell? ⟨M, 1, none⟩ = some (.func (.func 67) #[] #[]) := cell_of_row _ _ 1 _ _ _ mh
              have mf := HFX.out wr hbv
              have f0 : wr.cell? ⟨N + 1, 0, none⟩ = some (I 0) := cell_of_row _ _ 0 _ _ _ mf
              have f1 : wr.cell? ⟨N + 1, 1, none⟩ = some (I 0) := cell_of_row _ _ 1 _ _ _ mf
              have f2 : wr.cell? ⟨N + 1, 2, none⟩ = some (I 0) := cell_of_row _ _ 2 _ _ _ mf
              clear hbv mh
              by_cases hlt2 : i < sizeM P 4
              · have d3 : ((i : Int) < (sizeM P 4 : Int)) := by omega
                have HE2 : Hid ((if (rm 6 i != 0) = true then some (i, rm 6 i) else firstBad (rm 6) (sizeM P 4 - (i + 1)) (i + 1)) = firstBad (rm 6) (sizeM P 4) 0) := by
                  have := HE.out
                  obtain ⟨m, hm⟩ : ∃ m, sizeM P 4 - i = m + 1 := ⟨sizeM P 4 - i - 1, by omega⟩
                  rw [hm, firstBad] at this
                  rw [show sizeM P 4 - (i + 1) = m by omega]
                  exact this
                have HC1 : Hid (Calls Tryz.prog 67 #[ptr (N + 1 + 1), I i] wr fun e w' => e = .returned (I (rm 6 i)) ∧ Below wr.heap.size wr w') := Lib.hid (HRU.out (N + 1 + 1) wr 6 i (HTX.out wr HBV.out) (HGX.out wr HBV.out) rfl (by omega) HZE.out hlt2)
                have hwrs : N + 1 < wr.heap.size := lt_of_block mf
                have hwm : M < wr.heap.size := by have := HV.out.size; have := lt_of_block HM.out; omega
                have HMF := Lib.hid mf
                generalize rm 6 i = code at *
                clear mf HE
                cases e : (code != 0) with
                | true =>
                  obtain rfl : (((4 : Nat) : Int), (i : Int), code) = res := by
                    have h1 := HR.out
                    unfold checkM at h1
                    rw [HTM.out, ← HD2.out, ← HE2.out, e] at h1
                    exact h1
                  go_wp2_with (first | (go_at_call 67; refine HC1.out.mono ?_; rintro e w6 ⟨rfl, hb6⟩; have n0 := (hb6.cell (p := ⟨M, 0, none⟩) hwm).trans m0; have q0 := (hb6.cell (p := ⟨N + 1, 0, none⟩) hwrs).trans f0; have q1 := (hb6.cell (p := ⟨N + 1, 1, none⟩) hwrs).trans f1; have q2 := (hb6.cell (p := ⟨N + 1, 2, none⟩) hwrs).trans f2; have HQF := Lib.hid ((hb6.block _ hwrs).trans HMF.out); have g0 : w6.frozen? ⟨N + 1, 0, none⟩ = false := frozen_of HQF.out; have g1 : w6.frozen? ⟨N + 1, 1, none⟩ = false := frozen_of HQF.out; have g2 : w6.frozen? ⟨N + 1, 2, none⟩ = false := frozen_of HQF.out; have HB6 := Lib.hid hb6; clear hb6))
                  refine bodyPost_ret (results_cell_row rfl _ _ (N + 1) 33 #[I 4, I i, I code] (0, 0) _ rfl (set3 _ _ _ _ _ _ _ _ _ HQF.out) Tryz.underlying33 rfl (by kernel_rfl)) rfl ?_
                  have hfin : Below N w w6 := (HFIN.out wr HBV.out).trans (HB6.out.mono (by omega))
                  exact ⟨rfl, ((hfin.setCell (by show _ ≤ N + 1; omega) _).setCell (by show _ ≤ N + 1; omega) _).setCell (by show _ ≤ N + 1; omega) _⟩
                | false =>
                  have HE3 : Hid (firstBad (rm 6) (sizeM P 4 - (i + 1)) (i + 1) = firstBad (rm 6) (sizeM P 4) 0) := by have := HE2.out; rw [e] at this; exact this
                  go_wp2_with (first | (go_at_call 67; refine HC1.out.mono ?_; rintro e w6 ⟨rfl, hb6⟩; have HB6 := Lib.hid hb6; clear hb6))
                  go_roundg (sizeM P 4 + 1 - (i + 1))
                  case measure => have := HN2.out; omega
                  case rel => exact ⟨i + 1, by omega, by first | go_num | (rw [IntWalk.wrap64_in _ (by omega)]; go_num), rfl, HE3, HV.out.trans (HB6.out.mono (by have := HV.out.size; have := lt_of_block HM.out; omega))⟩
              · obtain rfl : i = sizeM P 4 := by omega
                have hnone : firstBad (rm 6) (sizeM P 4) 0 = none := by have := HE.out; rw [Nat.sub_self, firstBad] at this; exact this.symm
                have HD3 : Hid (rulesFrom P rm (13 - (6 + 1)) (6 + 1) = rulesFrom P rm 13 0) := by have := HD2.out; rw [hnone] at this; exact this
                have HZ2 : Hid (∀ k', k' < 6 + 1 → ∀ i', i' < sizeM P ((ruleParts.getD k' 0 : Nat) : Int) → rm k' i' = 0) := Lib.hid fun k' hk' i' hi' => by
                  by_cases ek : k' = 6
                  · subst ek
                    exact firstBad_none hnone i' (Nat.zero_le _) (by rw [Nat.zero_add]; exact hi')
                  · exact HZE.out k' (by omega) i' hi'
                clear hnone f0 f1 f2 m0 m1 mf
                go_wp2_with fail
                go_roundg (14 - (6 + 1))
                case measure => have := HN.out; omega
                case rel => exact ⟨6 + 1, by omega, by first | rfl | go_num, rfl, HD3, HZ2, HBV.out⟩
          · have r0 : wr.cell? ⟨N + 3, 14, none⟩ = some (I 5) := hrc 14
            have r1 : wr.cell? ⟨N + 3, 15, none⟩ = some (.func (.func 68) #[] #[]) := hrc 15
            have HD2 : Hid ((match firstBad (rm 7) (sizeM P 5) 0 with | some (i, c) => some (((5 : Nat) : Int), i, c) | none => rulesFrom P rm (13 - (7 + 1)) (7 + 1)) = rulesFrom P rm 13 0) := HD.out
            have hpt := HTX.out wr HW.out
            clear hrc HD
            go_upto_region 10 with fail
            change Code.wp _ _ _ _ (wr.alloc (.cells #[I 5, .func (.func 68) #[] #[]] 84))
            have hM : (wr.alloc (.cells #[I 5, .func (.func 68) #[] #[]] 84)).heap[wr.heap.size]? = some (.cells #[I 5, .func (.func 68) #[] #[]] 84) := heap_alloc_new wr _
            have hb5 : Below (N + 4) w4 (wr.alloc (.cells #[I 5, .func (.func 68) #[] #[]] 84)) := HW.out.alloc hws _
            generalize (wr.alloc (.cells #[I 5, .func (.func 68) #[] #[]] 84)) = w5 at *
            generalize hMM : wr.heap.size = M at *
            have m0 : w5.cell? ⟨M, 0, none⟩ = some (I 5) := cell_of_row _ _ 0 _ _ _ hM
            have HM := Lib.hid hM
            have HB5 := Lib.hid hb5
            clear hM hb5 r0 r1 hpt
            go_wp2_with (first | (go_at_call 31; refine (size_any P _ _ _ (HTX.out w5 HB5.out)).mono ?_; rintro e w2 ⟨rfl, rfl⟩; dsimp only))
            clear m0
            go_loopg [32] (sizeM P 5 + 1) (fun n v wx => ∃ i : Nat, i ≤ sizeM P 5 ∧ v = .int .i64 i ∧ Hid (n = sizeM P 5 + 1 - i) ∧ Hid (firstBad (rm 7) (sizeM P 5 - i) i = firstBad (rm 7) (sizeM P 5) 0) ∧ Hid (Below (M + 1) w5 wx))
            case atStart => exact ⟨0, by omega, rfl, rfl, rfl, Below.refl _ _⟩
            case round =>
              obtain ⟨i, hi, rfl, HN2, HE, HV⟩ := hrel
              have hbv : Below (N + 4) w4 wr := HB5.out.trans (HV.out.mono (by omega))
              have HBV := Lib.hid hbv
              have hsm : sizeM P 5 ≤ 140737488355328 := HSZ500.out 5
              have mh := (HV.out.block M (by omega)).trans HM.out
              have m0 : wr.cell? ⟨M, 0, none⟩ = some (I 5) := cell_of_row _ _ 0 _ _ _ mh
              have m1 : wr.cell? ⟨M, 1, none⟩ = some (.func (.func 68) #[] #[]) := cell_of_row _ _ 1 _ _ _ mh
              have mf := HFX.out wr hbv
              have f0 : wr.cell? ⟨N + 1, 0, none⟩ = some (I 0) := cell_of_row _ _ 0 _ _ _ mf
              have f1 : wr.cell? ⟨N + 1, 1, none⟩ = some (I 0) := cell_of_row _ _ 1 _ _ _ mf
              have f2 : wr.cell? ⟨N + 1, 2, none⟩ = some (I 0) := cell_of_row _ _ 2 _ _ _ mf
              clear hbv mh
              by_cases hlt2 : i < sizeM P 5
              · have d3 : ((i : Int) < (sizeM P 5 : Int)) := by omega
                have HE2 : Hid ((if (rm 7 i != 0) = true then some (i, rm 7 i) else firstBad (rm 7) (sizeM P 5 - (i + 1)) (i + 1)) = firstBad (rm 7) (sizeM P 5) 0) := by
                  have := HE.out
                  obtain ⟨m, hm⟩ : ∃ m, sizeM P 5 - i = m + 1 := ⟨sizeM P 5 - i - 1, by omega⟩
                  rw [hm, firstBad] at this
                  rw [show sizeM P 5 - (i + 1) = m by omega]
                  exact this
                have HC1 : Hid (Calls Tryz.prog 68 #[ptr (N + 1 + 1), I i] wr fun e w' => e = .returned (I (rm 7 i)) ∧ Below wr.heap.size wr w') := Lib.hid (HRU.out (N + 1 + 1) wr 7 i (HTX.out wr HBV.out) (HGX.out wr HBV.out) rfl (by omega) HZE.out hlt2)
                have hwrs : N + 1 < wr.heap.size := lt_of_block mf
                have hwm : M < wr.heap.size := by have := HV.out.size; have := lt_of_block HM.out; omega
                have HMF := Lib.hid mf
                generalize rm 7 i = code at *
                clear mf HE
                cases e : (code != 0) with
                | true =>
                  obtain rfl : (((5 : Nat) : Int), (i : Int), code) = res := by
                    have h1 := HR.out
                    unfold checkM at h1
                    rw [HTM.out, ← HD2.out, ← HE2.out, e] at h1
                    exact h1
                  go_wp2_with (first | (go_at_call 68; refine HC1.out.mono ?_; rintro e w6 ⟨rfl, hb6⟩; have n0 := (hb6.cell (p := ⟨M, 0, none⟩) hwm).trans m0; have q0 := (hb6.cell (p := ⟨N + 1, 0, none⟩) hwrs).trans f0; have q1 := (hb6.cell (p := ⟨N + 1, 1, none⟩) hwrs).trans f1; have q2 := (hb6.cell (p := ⟨N + 1, 2, none⟩) hwrs).trans f2; have HQF := Lib.hid ((hb6.block _ hwrs).trans HMF.out); have g0 : w6.frozen? ⟨N + 1, 0, none⟩ = false := frozen_of HQF.out; have g1 : w6.frozen? ⟨N + 1, 1, none⟩ = false := frozen_of HQF.out; have g2 : w6.frozen? ⟨N + 1, 2, none⟩ = false := frozen_of HQF.out; have HB6 := Lib.hid hb6; clear hb6))
                  refine bodyPost_ret (results_cell_row rfl _ _ (N + 1) 33 #[I 5, I i, I code] (0, 0) _ rfl (set3 _ _ _ _ _ _ _ _ _ HQF.out) Tryz.underlying33 rfl (by kernel_rfl)) rfl ?_
                  have hfin : Below N w w6 := (HFIN.out wr HBV.out).trans (HB6.out.mono (by omega))
                  exact ⟨rfl, ((hfin.setCell (by show _ ≤ N + 1; omega) _).setCell (by show _ ≤ N + 1; omega) _).setCell (by show _ ≤ N + 1; omega) _⟩
                | false =>
                  have HE3 : Hid (firstBad (rm 7) (sizeM P 5 - (i + 1)) (i + 1) = firstBad (rm 7) (sizeM P 5) 0) := by have := HE2.out; rw [e] at this; exact this
                  go_wp2_with (first | (go_at_call 68; refine HC1.out.mono ?_; rintro e w6 ⟨rfl, hb6⟩; have HB6 := Lib.hid hb6; clear hb6))
                  go_roundg (sizeM P 5 + 1 - (i + 1))
                  case measure => have := HN2.out; omega
                  case rel => exact ⟨i + 1, by omega, by first | go_num | (rw [IntWalk.wrap64_in _ (by omega)]; go_num), rfl, HE3, HV.out.trans (HB6.out.mono (by have := HV.out.size; have := lt_of_block HM.out; omega))⟩
              · obtain rfl : i = sizeM P 5 := by omega
                have hnone : firstBad (rm 7) (sizeM P 5) 0 = none := by have := HE.out; rw [Nat.sub_self, firstBad] at this; exact this.symm
                have HD3 : Hid (rulesFrom P rm (13 - (7 + 1)) (7 + 1) = rulesFrom P rm 13 0) := by have := HD2.out; rw [hnone] at this; exact this
                have HZ2 : Hid (∀ k', k' < 7 + 1 → ∀ i', i' < sizeM P ((ruleParts.getD k' 0 : Nat) : Int) → rm k' i' = 0) := Lib.hid fun k' hk' i' hi' => by
                  by_cases ek : k' = 7
                  · subst ek
                    exact firstBad_none hnone i' (Nat.zero_le _) (by rw [Nat.zero_add]; exact hi')
                  · exact HZE.out k' (by omega) i' hi'
                clear hnone f0 f1 f2 m0 m1 mf
                go_wp2_with fail
                go_roundg (14 - (7 + 1))
                case measure => have := HN.out; omega
                case rel => exact ⟨7 + 1, by omega, by first | rfl | go_num, rfl, HD3, HZ2, HBV.out⟩
          · have r0 : wr.cell? ⟨N + 3, 16, none⟩ = some (I 1) := hrc 16
            have r1 : wr.cell? ⟨N + 3, 17, none⟩ = some (.func (.func 69) #[] #[]) := hrc 17
            have HD2 : Hid ((match firstBad (rm 8) (sizeM P 1) 0 with | some (i, c) => some (((1 : Nat) : Int), i, c) | none => rulesFrom P rm (13 - (8 + 1)) (8 + 1)) = rulesFrom P rm 13 0) := HD.out
            have hpt := HTX.out wr HW.out
            clear hrc HD
            go_upto_region 10 with fail
            change Code.wp _ _ _ _ (wr.alloc (.cells #[I 1, .func (.func 69) #[] #[]] 84))
            have hM : (wr.alloc (.cells #[I 1, .func (.func 69) #[] #[]] 84)).heap[wr.heap.size]? = some (.cells #[I 1, .func (.func 69) #[] #[]] 84) := heap_alloc_new wr _
            have hb5 : Below (N + 4) w4 (wr.alloc (.cells #[I 1, .func (.func 69) #[] #[]] 84)) := HW.out.alloc hws _
            generalize (wr.alloc (.cells #[I 1, .func (.func 69) #[] #[]] 84)) = w5 at *
            generalize hMM : wr.heap.size = M at *
            have m0 : w5.cell? ⟨M, 0, none⟩ = some (I 1) := cell_of_row _ _ 0 _ _ _ hM
            have HM := Lib.hid hM
            have HB5 := Lib.hid hb5
            clear hM hb5 r0 r1 hpt
            go_wp2_with (first | (go_at_call 31; refine (size_any P _ _ _ (HTX.out w5 HB5.out)).mono ?_; rintro e w2 ⟨rfl, rfl⟩; dsimp only))
            clear m0
            go_loopg [32] (sizeM P 1 + 1) (fun n v wx => ∃ i : Nat, i ≤ sizeM P 1 ∧ v = .int .i64 i ∧ Hid (n = sizeM P 1 + 1 - i) ∧ Hid (firstBad (rm 8) (sizeM P 1 - i) i = firstBad (rm 8) (sizeM P 1) 0) ∧ Hid (Below (M + 1) w5 wx))
            case atStart => exact ⟨0, by omega, rfl, rfl, rfl, Below.refl _ _⟩
            case round =>
              obtain ⟨i, hi, rfl, HN2, HE, HV⟩ := hrel
              have hbv : Below (N + 4) w4 wr := HB5.out.trans (HV.out.mono (by omega))
              have HBV := Lib.hid hbv
              have hsm : sizeM P 1 ≤ 140737488355328 := HSZ500.out 1
              have mh := (HV.out.block M (by omega)).trans HM.out
              have m0 : wr.cell? ⟨M, 0, none⟩ = some (I 1) := cell_of_row _ _ 0 _ _ _ mh
              have m1 : wr.cell? ⟨M, 1, none⟩ = some (.func (.func 69) #[] #[]) := cell_of_row _ _ 1 _ _ _ mh
              have mf := HFX.out wr hbv
              have f0 : wr.cell? ⟨N + 1, 0, none⟩ = some (I 0) := cell_of_row _ _ 0 _ _ _ mf
              have f1 : wr.cell? ⟨N + 1, 1, none⟩ = some (I 0) := cell_of_row _ _ 1 _ _ _ mf
              have f2 : wr.cell? ⟨N + 1, 2, none⟩ = some (I 0) := cell_of_row _ _ 2 _ _ _ mf
              clear hbv mh
              by_cases hlt2 : i < sizeM P 1
              · have d3 : ((i : Int) < (sizeM P 1 : Int)) := by omega
                have HE2 : Hid ((if (rm 8 i != 0) = true then some (i, rm 8 i) else firstBad (rm 8) (sizeM P 1 - (i + 1)) (i + 1)) = firstBad (rm 8) (sizeM P 1) 0) := by
                  have := HE.out
                  obtain ⟨m, hm⟩ : ∃ m, sizeM P 1 - i = m + 1 := ⟨sizeM P 1 - i - 1, by omega⟩
                  rw [hm, firstBad] at this
                  rw [show sizeM P 1 - (i + 1) = m by omega]
                  exact this
                have HC1 : Hid (Calls Tryz.prog 69 #[ptr (N + 1 + 1), I i] wr fun e w' => e = .returned (I (rm 8 i)) ∧ Below wr.heap.size wr w') := Lib.hid (HRU.out (N + 1 + 1) wr 8 i (HTX.out wr HBV.out) (HGX.out wr HBV.out) rfl (by omega) HZE.out hlt2)
                have hwrs : N + 1 < wr.heap.size := lt_of_block mf
                have hwm : M < wr.heap.size := by have := HV.out.size; have := lt_of_block HM.out; omega
                have HMF := Lib.hid mf
                generalize rm 8 i = code at *
                clear mf HE
                cases e : (code != 0) with
                | true =>
                  obtain rfl : (((1 : Nat) : Int), (i : Int), code) = res := by
                    have h1 := HR.out
                    unfold checkM at h1
                    rw [HTM.out, ← HD2.out, ← HE2.out, e] at h1
                    exact h1
                  go_wp2_with (first | (go_at_call 69; refine HC1.out.mono ?_; rintro e w6 ⟨rfl, hb6⟩; have n0 := (hb6.cell (p := ⟨M, 0, none⟩) hwm).trans m0; have q0 := (hb6.cell (p := ⟨N + 1, 0, none⟩) hwrs).trans f0; have q1 := (hb6.cell (p := ⟨N + 1, 1, none⟩) hwrs).trans f1; have q2 := (hb6.cell (p := ⟨N + 1, 2, none⟩) hwrs).trans f2; have HQF := Lib.hid ((hb6.block _ hwrs).trans HMF.out); have g0 : w6.frozen? ⟨N + 1, 0, none⟩ = false := frozen_of HQF.out; have g1 : w6.frozen? ⟨N + 1, 1, none⟩ = false := frozen_of HQF.out; have g2 : w6.frozen? ⟨N + 1, 2, none⟩ = false := frozen_of HQF.out; have HB6 := Lib.hid hb6; clear hb6))
                  refine bodyPost_ret (results_cell_row rfl _ _ (N + 1) 33 #[I 1, I i, I code] (0, 0) _ rfl (set3 _ _ _ _ _ _ _ _ _ HQF.out) Tryz.underlying33 rfl (by kernel_rfl)) rfl ?_
                  have hfin : Below N w w6 := (HFIN.out wr HBV.out).trans (HB6.out.mono (by omega))
                  exact ⟨rfl, ((hfin.setCell (by show _ ≤ N + 1; omega) _).setCell (by show _ ≤ N + 1; omega) _).setCell (by show _ ≤ N + 1; omega) _⟩
                | false =>
                  have HE3 : Hid (firstBad (rm 8) (sizeM P 1 - (i + 1)) (i + 1) = firstBad (rm 8) (sizeM P 1) 0) := by have := HE2.out; rw [e] at this; exact this
                  go_wp2_with (first | (go_at_call 69; refine HC1.out.mono ?_; rintro e w6 ⟨rfl, hb6⟩; have HB6 := Lib.hid hb6; clear hb6))
                  go_roundg (sizeM P 1 + 1 - (i + 1))
                  case measure => have := HN2.out; omega
                  case rel => exact ⟨i + 1, by omega, by first | go_num | (rw [IntWalk.wrap64_in _ (by omega)]; go_num), rfl, HE3, HV.out.trans (HB6.out.mono (by have := HV.out.size; have := lt_of_block HM.out; omega))⟩
              · obtain rfl : i = sizeM P 1 := by omega
                have hnone : firstBad (rm 8) (sizeM P 1) 0 = none := by have := HE.out; rw [Nat.sub_self, firstBad] at this; exact this.symm
                have HD3 : Hid (rulesFrom P rm (13 - (8 + 1)) (8 + 1) = rulesFrom P rm 13 0) := by have := HD2.out; rw [hnone] at this; exact this
                have HZ2 : Hid (∀ k', k' < 8 + 1 → ∀ i', i' < sizeM P ((ruleParts.getD k' 0 : Nat) : Int) → rm k' i' = 0) := Lib.hid fun k' hk' i' hi' => by
                  by_cases ek : k' = 8
                  · subst ek
                    exact firstBad_none hnone i' (Nat.zero_le _) (by rw [Nat.zero_add]; exact hi')
                  · exact HZE.out k' (by omega) i' hi'
                clear hnone f0 f1 f2 m0 m1 mf
                go_wp2_with fail
                go_roundg (14 - (8 + 1))
                case measure => have := HN.out; omega
                case rel => exact ⟨8 + 1, by omega, by first | rfl | go_num, rfl, HD3, HZ2, HBV.out⟩
          · have r0 : wr.cell? ⟨N + 3, 18, none⟩ = some (I 3) := hrc 18
            have r1 : wr.cell? ⟨N + 3, 19, none⟩ = some (.func (.func 70) #[] #[]) := hrc 19
            have HD2 : Hid ((match firstBad (rm 9) (sizeM P 3) 0 with | some (i, c) => some (((3 : Nat) : Int), i, c) | none => rulesFrom P rm (13 - (9 + 1)) (9 + 1)) = rulesFrom P rm 13 0) := HD.out
            have hpt := HTX.out wr HW.out
            clear hrc HD
            go_upto_region 10 with fail
            change Code.wp _ _ _ _ (wr.alloc (.cells #[I 3, .func (.func 70) #[] #[]] 84))
            have hM : (wr.alloc (.cells #[I 3, .func (.func 70) #[] #[]] 84)).heap[wr.heap.size]? = some (.cells #[I 3, .func (.func 70) #[] #[]] 84) := heap_alloc_new wr _
            have hb5 : Below (N + 4) w4 (wr.alloc (.cells #[I 3, .func (.func 70) #[] #[]] 84)) := HW.out.alloc hws _
            generalize (wr.alloc (.cells #[I 3, .func (.func 70) #[] #[]] 84)) = w5 at *
            generalize hMM : wr.heap.size = M at *
            have m0 : w5.cell? ⟨M, 0, none⟩ = some (I 3) := cell_of_row _ _ 0 _ _ _ hM
            have HM := Lib.hid hM
            have HB5 := Lib.hid hb5
            clear hM hb5 r0 r1 hpt
            go_wp2_with (first | (go_at_call 31; refine (size_any P _ _ _ (HTX.out w5 HB5.out)).mono ?_; rintro e w2 ⟨rfl, rfl⟩; dsimp only))
            clear m0
            go_loopg [32] (sizeM P 3 + 1) (fun n v wx => ∃ i : Nat, i ≤ sizeM P 3 ∧ v = .int .i64 i ∧ Hid (n = sizeM P 3 + 1 - i) ∧ Hid (firstBad (rm 9) (sizeM P 3 - i) i = firstBad (rm 9) (sizeM P 3) 0) ∧ Hid (Below (M + 1) w5 wx))
            case atStart => exact ⟨0, by omega, rfl, rfl, rfl, Below.refl _ _⟩
            case round =>
              obtain ⟨i, hi, rfl, HN2, HE, HV⟩ := hrel
              have hbv : Below (N + 4) w4 wr := HB5.out.trans (HV.out.mono (by omega))
              have HBV := Lib.hid hbv
              have hsm : sizeM P 3 ≤ 140737488355328 := HSZ500.out 3
              have mh := (HV.out.block M (by omega)).trans HM.out
              have m0 : wr.cell? ⟨M, 0, none⟩ = some (I 3) := cell_of_row _ _ 0 _ _ _ mh
              have m1 : wr.cell? ⟨M, 1, none⟩ = some (.func (.func 70) #[] #[]) := cell_of_row _ _ 1 _ _ _ mh
              have mf := HFX.out wr hbv
              have f0 : wr.cell? ⟨N + 1, 0, none⟩ = some (I 0) := cell_of_row _ _ 0 _ _ _ mf
              have f1 : wr.cell? ⟨N + 1, 1, none⟩ = some (I 0) := cell_of_row _ _ 1 _ _ _ mf
              have f2 : wr.cell? ⟨N + 1, 2, none⟩ = some (I 0) := cell_of_row _ _ 2 _ _ _ mf
              clear hbv mh
              by_cases hlt2 : i < sizeM P 3
              · have d3 : ((i : Int) < (sizeM P 3 : Int)) := by omega
                have HE2 : Hid ((if (rm 9 i != 0) = true then some (i, rm 9 i) else firstBad (rm 9) (sizeM P 3 - (i + 1)) (i + 1)) = firstBad (rm 9) (sizeM P 3) 0) := by
                  have := HE.out
                  obtain ⟨m, hm⟩ : ∃ m, sizeM P 3 - i = m + 1 := ⟨sizeM P 3 - i - 1, by omega⟩
                  rw [hm, firstBad] at this
                  rw [show sizeM P 3 - (i + 1) = m by omega]
                  exact this
                have HC1 : Hid (Calls Tryz.prog 70 #[ptr (N + 1 + 1), I i] wr fun e w' => e = .returned (I (rm 9 i)) ∧ Below wr.heap.size wr w') := Lib.hid (HRU.out (N + 1 + 1) wr 9 i (HTX.out wr HBV.out) (HGX.out wr HBV.out) rfl (by omega) HZE.out hlt2)
                have hwrs : N + 1 < wr.heap.size := lt_of_block mf
                have hwm : M < wr.heap.size := by have := HV.out.size; have := lt_of_block HM.out; omega
                have HMF := Lib.hid mf
                generalize rm 9 i = code at *
                clear mf HE
                cases e : (code != 0) with
                | true =>
                  obtain rfl : (((3 : Nat) : Int), (i : Int), code) = res := by
                    have h1 := HR.out
                    unfold checkM at h1
                    rw [HTM.out, ← HD2.out, ← HE2.out, e] at h1
                    exact h1
                  go_wp2_with (first | (go_at_call 70; refine HC1.out.mono ?_; rintro e w6 ⟨rfl, hb6⟩; have n0 := (hb6.cell (p := ⟨M, 0, none⟩) hwm).trans m0; have q0 := (hb6.cell (p := ⟨N + 1, 0, none⟩) hwrs).trans f0; have q1 := (hb6.cell (p := ⟨N + 1, 1, none⟩) hwrs).trans f1; have q2 := (hb6.cell (p := ⟨N + 1, 2, none⟩) hwrs).trans f2; have HQF := Lib.hid ((hb6.block _ hwrs).trans HMF.out); have g0 : w6.frozen? ⟨N + 1, 0, none⟩ = false := frozen_of HQF.out; have g1 : w6.frozen? ⟨N + 1, 1, none⟩ = false := frozen_of HQF.out; have g2 : w6.frozen? ⟨N + 1, 2, none⟩ = false := frozen_of HQF.out; have HB6 := Lib.hid hb6; clear hb6))
                  refine bodyPost_ret (results_cell_row rfl _ _ (N + 1) 33 #[I 3, I i, I code] (0, 0) _ rfl (set3 _ _ _ _ _ _ _ _ _ HQF.out) Tryz.underlying33 rfl (by kernel_rfl)) rfl ?_
                  have hfin : Below N w w6 := (HFIN.out wr HBV.out).trans (HB6.out.mono (by omega))
                  exact ⟨rfl, ((hfin.setCell (by show _ ≤ N + 1; omega) _).setCell (by show _ ≤ N + 1; omega) _).setCell (by show _ ≤ N + 1; omega) _⟩
                | false =>
                  have HE3 : Hid (firstBad (rm 9) (sizeM P 3 - (i + 1)) (i + 1) = firstBad (rm 9) (sizeM P 3) 0) := by have := HE2.out; rw [e] at this; exact this
                  go_wp2_with (first | (go_at_call 70; refine HC1.out.mono ?_; rintro e w6 ⟨rfl, hb6⟩; have HB6 := Lib.hid hb6; clear hb6))
                  go_roundg (sizeM P 3 + 1 - (i + 1))
                  case measure => have := HN2.out; omega
                  case rel => exact ⟨i + 1, by omega, by first | go_num | (rw [IntWalk.wrap64_in _ (by omega)]; go_num), rfl, HE3, HV.out.trans (HB6.out.mono (by have := HV.out.size; have := lt_of_block HM.out; omega))⟩
              · obtain rfl : i = sizeM P 3 := by omega
                have hnone : firstBad (rm 9) (sizeM P 3) 0 = none := by have := HE.out; rw [Nat.sub_self, firstBad] at this; exact this.symm
                have HD3 : Hid (rulesFrom P rm (13 - (9 + 1)) (9 + 1) = rulesFrom P rm 13 0) := by have := HD2.out; rw [hnone] at this; exact this
                have HZ2 : Hid (∀ k', k' < 9 + 1 → ∀ i', i' < sizeM P ((ruleParts.getD k' 0 : Nat) : Int) → rm k' i' = 0) := Lib.hid fun k' hk' i' hi' => by
                  by_cases ek : k' = 9
                  · subst ek
                    exact firstBad_none hnone i' (Nat.zero_le _) (by rw [Nat.zero_add]; exact hi')
                  · exact HZE.out k' (by omega) i' hi'
                clear hnone f0 f1 f2 m0 m1 mf
                go_wp2_with fail
                go_roundg (14 - (9 + 1))
                case measure => have := HN.out; omega
                case rel => exact ⟨9 + 1, by omega, by first | rfl | go_num, rfl, HD3, HZ2, HBV.out⟩
          · have r0 : wr.cell? ⟨N + 3, 20, none⟩ = some (I 2) := hrc 20
            have r1 : wr.cell? ⟨N + 3, 21, none⟩ = some (.func (.func 71) #[] #[]) := hrc 21
            have HD2 : Hid ((match firstBad (rm 10) (sizeM P 2) 0 with | some (i, c) => some (((2 : Nat) : Int), i, c) | none => rulesFrom P rm (13 - (10 + 1)) (10 + 1)) = rulesFrom P rm 13 0) := HD.out
            have hpt := HTX.out wr HW.out
            clear hrc HD
            go_upto_region 10 with fail
            change Code.wp _ _ _ _ (wr.alloc (.cells #[I 2, .func (.func 71) #[] #[]] 84))
            have hM : (wr.alloc (.cells #[I 2, .func (.func 71) #[] #[]] 84)).heap[wr.heap.size]? = some (.cells #[I 2, .func (.func 71) #[] #[]] 84) := heap_alloc_new wr _
            have hb5 : Below (N + 4) w4 (wr.alloc (.cells #[I 2, .func (.func 71) #[] #[]] 84)) := HW.out.alloc hws _
            generalize (wr.alloc (.cells #[I 2, .func (.func 71) #[] #[]] 84)) = w5 at *
            generalize hMM : wr.heap.size = M at *
            have m0 : w5.cell? ⟨M, 0, none⟩ = some (I 2) := cell_of_row _ _ 0 _ _ _ hM
            have HM := Lib.hid hM
            have HB5 := Lib.hid hb5
            clear hM hb5 r0 r1 hpt
            go_wp2_with (first | (go_at_call 31; refine (size_any P _ _ _ (HTX.out w5 HB5.out)).mono ?_; rintro e w2 ⟨rfl, rfl⟩; dsimp only))
            clear m0
            go_loopg [32] (sizeM P 2 + 1) (fun n v wx => ∃ i : Nat, i ≤ sizeM P 2 ∧ v = .int .i64 i ∧ Hid (n = sizeM P 2 + 1 - i) ∧ Hid (firstBad (rm 10) (sizeM P 2 - i) i = firstBad (rm 10) (sizeM P 2) 0) ∧ Hid (Below (M + 1) w5 wx))
            case atStart => exact ⟨0, by omega, rfl, rfl, rfl, Below.refl _ _⟩
            case round =>
              obtain ⟨i, hi, rfl, HN2, HE, HV⟩ := hrel
              have hbv : Below (N + 4) w4 wr := HB5.out.trans (HV.out.mono (by omega))
              have HBV := Lib.hid hbv
              have hsm : sizeM P 2 ≤ 140737488355328 := HSZ500.out 2
              have mh := (HV.out.block M (by omega)).trans HM.out
              have m0 : wr.cell? ⟨M, 0, none⟩ = some (I 2) := cell_of_row _ _ 0 _ _ _ mh
              have m1 : wr.cell? ⟨M, 1, none⟩ = some (.func (.func 71) #[] #[]) := cell_of_row _ _ 1 _ _ _ mh
              have mf := HFX.out wr hbv
              have f0 : wr.cell? ⟨N + 1, 0, none⟩ = some (I 0) := cell_of_row _ _ 0 _ _ _ mf
              have f1 : wr.cell? ⟨N + 1, 1, none⟩ = some (I 0) := cell_of_row _ _ 1 _ _ _ mf
              have f2 : wr.cell? ⟨N + 1, 2, none⟩ = some (I 0) := cell_of_row _ _ 2 _ _ _ mf
              clear hbv mh
              by_cases hlt2 : i < sizeM P 2
              · have d3 : ((i : Int) < (sizeM P 2 : Int)) := by omega
                have HE2 : Hid ((if (rm 10 i != 0) = true then some (i, rm 10 i) else firstBad (rm 10) (sizeM P 2 - (i + 1)) (i + 1)) = firstBad (rm 10) (sizeM P 2) 0) := by
                  have := HE.out
                  obtain ⟨m, hm⟩ : ∃ m, sizeM P 2 - i = m + 1 := ⟨sizeM P 2 - i - 1, by omega⟩
                  rw [hm, firstBad] at this
                  rw [show sizeM P 2 - (i + 1) = m by omega]
                  exact this
                have HC1 : Hid (Calls Tryz.prog 71 #[ptr (N + 1 + 1), I i] wr fun e w' => e = .returned (I (rm 10 i)) ∧ Below wr.heap.size wr w') := Lib.hid (HRU.out (N + 1 + 1) wr 10 i (HTX.out wr HBV.out) (HGX.out wr HBV.out) rfl (by omega) HZE.out hlt2)
                have hwrs : N + 1 < wr.heap.size := lt_of_block mf
                have hwm : M < wr.heap.size := by have := HV.out.size; have := lt_of_block HM.out; omega
                have HMF := Lib.hid mf
                generalize rm 10 i = code at *
                clear mf HE
                cases e : (code != 0) with
                | true =>
                  obtain rfl : (((2 : Nat) : Int), (i : Int), code) = res := by
                    have h1 := HR.out
                    unfold checkM at h1
                    rw [HTM.out, ← HD2.out, ← HE2.out, e] at h1
                    exact h1
                  go_wp2_with (first | (go_at_call 71; refine HC1.out.mono ?_; rintro e w6 ⟨rfl, hb6⟩; have n0 := (hb6.cell (p := ⟨M, 0, none⟩) hwm).trans m0; have q0 := (hb6.cell (p := ⟨N + 1, 0, none⟩) hwrs).trans f0; have q1 := (hb6.cell (p := ⟨N + 1, 1, none⟩) hwrs).trans f1; have q2 := (hb6.cell (p := ⟨N + 1, 2, none⟩) hwrs).trans f2; have HQF := Lib.hid ((hb6.block _ hwrs).trans HMF.out); have g0 : w6.frozen? ⟨N + 1, 0, none⟩ = false := frozen_of HQF.out; have g1 : w6.frozen? ⟨N + 1, 1, none⟩ = false := frozen_of HQF.out; have g2 : w6.frozen? ⟨N + 1, 2, none⟩ = false := frozen_of HQF.out; have HB6 := Lib.hid hb6; clear hb6))
                  refine bodyPost_ret (results_cell_row rfl _ _ (N + 1) 33 #[I 2, I i, I code] (0, 0) _ rfl (set3 _ _ _ _ _ _ _ _ _ HQF.out) Tryz.underlying33 rfl (by kernel_rfl)) rfl ?_
                  have hfin : Below N w w6 := (HFIN.out wr HBV.out).trans (HB6.out.mono (by omega))
                  exact ⟨rfl, ((hfin.setCell (by show _ ≤ N + 1; omega) _).setCell (by show _ ≤ N + 1; omega) _).setCell (by show _ ≤ N + 1; omega) _⟩
                | false =>
                  have HE3 : Hid (firstBad (rm 10) (sizeM P 2 - (i + 1)) (i + 1) = firstBad (rm 10) (sizeM P 2) 0) := by have := HE2.out; rw [e] at this; exact this
                  go_wp2_with (first | (go_at_call 71; refine HC1.out.mono ?_; rintro e w6 ⟨rfl, hb6⟩; have HB6 := Lib.hid hb6; clear hb6))
                  go_roundg (sizeM P 2 + 1 - (i + 1))
                  case measure => have := HN2.out; omega
                  case rel => exact ⟨i + 1, by omega, by first | go_num | (rw [IntWalk.wrap64_in _ (by omega)]; go_num), rfl, HE3, HV.out.trans (HB6.out.mono (by have := HV.out.size; have := lt_of_block HM.out; omega))⟩
              · obtain rfl : i = sizeM P 2 := by omega
                have hnone : firstBad (rm 10) (sizeM P 2) 0 = none := by have := HE.out; rw [Nat.sub_self, firstBad] at this; exact this.symm
                have HD3 : Hid (rulesFrom P rm (13 - (10 + 1)) (10 + 1) = rulesFrom P rm 13 0) := by have := HD2.out; rw [hnone] at this; exact this
                have HZ2 : Hid (∀ k', k' < 10 + 1 → ∀ i', i' < sizeM P ((ruleParts.getD k' 0 : Nat) : Int) → rm k' i' = 0) := Lib.hid fun k' hk' i' hi' => by
                  by_cases ek : k' = 10
                  · subst ek
                    exact firstBad_none hnone i' (Nat.zero_le _) (by rw [Nat.zero_add]; exact hi')
                  · exact HZE.out k' (by omega) i' hi'
                clear hnone f0 f1 f2 m0 m1 mf
                go_wp2_with fail
                go_roundg (14 - (10 + 1))
                case measure => have := HN.out; omega
                case rel => exact ⟨10 + 1, by omega, by first | rfl | go_num, rfl, HD3, HZ2, HBV.out⟩
          · have r0 : wr.cell? ⟨N + 3, 22, none⟩ = some (I 5) := hrc 22
            have r1 : wr.cell? ⟨N + 3, 23, none⟩ = some (.func (.func 72) #[] #[]) := hrc 23
            have HD2 : Hid ((match firstBad (rm 11) (sizeM P 5) 0 with | some (i, c) => some (((5 : Nat) : Int), i, c) | none => rulesFrom P rm (13 - (11 + 1)) (11 + 1)) = rulesFrom P rm 13 0) := HD.out
            have hpt := HTX.out wr HW.out
            clear hrc HD
            go_upto_region 10 with fail
            change Code.wp _ _ _ _ (wr.alloc (.cells #[I 5, .func (.func 72) #[] #[]] 84))
            have hM : (wr.alloc (.cells #[I 5, .func (.func 72) #[] #[]] 84)).heap[wr.heap.size]? = some (.cells #[I 5, .func (.func 72) #[] #[]] 84) := heap_alloc_new wr _
            have hb5 : Below (N + 4) w4 (wr.alloc (.cells #[I 5, .func (.func 72) #[] #[]] 84)) := HW.out.alloc hws _
            generalize (wr.alloc (.cells #[I 5, .func (.func 72) #[] #[]] 84)) = w5 at *
            generalize hMM : wr.heap.size = M at *
            have m0 : w5.cell? ⟨M, 0, none⟩ = some (I 5) := cell_of_row _ _ 0 _ _ _ hM
            have HM := Lib.hid hM
            have HB5 := Lib.hid hb5
            clear hM hb5 r0 r1 hpt
            go_wp2_with (first | (go_at_call 31; refine (size_any P _ _ _ (HTX.out w5 HB5.out)).mono ?_; rintro e w2 ⟨rfl, rfl⟩; dsimp only))
            clear m0
            go_loopg [32] (sizeM P 5 + 1) (fun n v wx => ∃ i : Nat, i ≤ sizeM P 5 ∧ v = .int .i64 i ∧ Hid (n = sizeM P 5 + 1 - i) ∧ Hid (firstBad (rm 11) (sizeM P 5 - i) i = firstBad (rm 11) (sizeM P 5) 0) ∧ Hid (Below (M + 1) w5 wx))
            case atStart => exact ⟨0, by omega, rfl, rfl, rfl, Below.refl _ _⟩
            case round =>
              obtain ⟨i, hi, rfl, HN2, HE, HV⟩ := hrel
              have hbv : Below (N + 4) w4 wr := HB5.out.trans (HV.out.mono (by omega))
              have HBV := Lib.hid hbv
              have hsm : sizeM P 5 ≤ 140737488355328 := HSZ500.out 5
              have mh := (HV.out.block M (by omega)).trans HM.out
              have m0 : wr.cell? ⟨M, 0, none⟩ = some (I 5) := cell_of_row _ _ 0 _ _ _ mh
              have m1 : wr.cell? ⟨M, 1, none⟩ = some (.func (.func 72) #[] #[]) := cell_of_row _ _ 1 _ _ _ mh
              have mf := HFX.out wr hbv
              have f0 : wr.cell? ⟨N + 1, 0, none⟩ = some (I 0) := cell_of_row _ _ 0 _ _ _ mf
              have f1 : wr.cell? ⟨N + 1, 1, none⟩ = some (I 0) := cell_of_row _ _ 1 _ _ _ mf
              have f2 : wr.cell? ⟨N + 1, 2, none⟩ = some (I 0) := cell_of_row _ _ 2 _ _ _ mf
              clear hbv mh
              by_cases hlt2 : i < sizeM P 5
              · have d3 : ((i : Int) < (sizeM P 5 : Int)) := by omega
                have HE2 : Hid ((if (rm 11 i != 0) = true then some (i, rm 11 i) else firstBad (rm 11) (sizeM P 5 - (i + 1)) (i + 1)) = firstBad (rm 11) (sizeM P 5) 0) := by
                  have := HE.out
                  obtain ⟨m, hm⟩ : ∃ m, sizeM P 5 - i = m + 1 := ⟨sizeM P 5 - i - 1, by omega⟩
                  rw [hm, firstBad] at this
                  rw [show sizeM P 5 - (i + 1) = m by omega]
                  exact this
                have HC1 : Hid (Calls Tryz.prog 72 #[ptr (N + 1 + 1), I i] wr fun e w' => e = .returned (I (rm 11 i)) ∧ Below wr.heap.size wr w') := Lib.hid (HRU.out (N + 1 + 1) wr 11 i (HTX.out wr HBV.out) (HGX.out wr HBV.out) rfl (by omega) HZE.out hlt2)
                have hwrs : N + 1 < wr.heap.size := lt_of_block mf
                have hwm : M < wr.heap.size := by have := HV.out.size; have := lt_of_block HM.out; omega
                have HMF := Lib.hid mf
                generalize rm 11 i = code at *
                clear mf HE
                cases e : (code != 0) with
                | true =>
                  obtain rfl : (((5 : Nat) : Int), (i : Int), code) = res := by
                    have h1 := HR.out
                    unfold checkM at h1
                    rw [HTM.out, ← HD2.out, ← HE2.out, e] at h1
                    exact h1
                  go_wp2_with (first | (go_at_call 72; refine HC1.out.mono ?_; rintro e w6 ⟨rfl, hb6⟩; have n0 := (hb6.cell (p := ⟨M, 0, none⟩) hwm).trans m0; have q0 := (hb6.cell (p := ⟨N + 1, 0, none⟩) hwrs).trans f0; have q1 := (hb6.cell (p := ⟨N + 1, 1, none⟩) hwrs).trans f1; have q2 := (hb6.cell (p := ⟨N + 1, 2, none⟩) hwrs).trans f2; have HQF := Lib.hid ((hb6.block _ hwrs).trans HMF.out); have g0 : w6.frozen? ⟨N + 1, 0, none⟩ = false := frozen_of HQF.out; have g1 : w6.frozen? ⟨N + 1, 1, none⟩ = false := frozen_of HQF.out; have g2 : w6.frozen? ⟨N + 1, 2, none⟩ = false := frozen_of HQF.out; have HB6 := Lib.hid hb6; clear hb6))
                  refine bodyPost_ret (results_cell_row rfl _ _ (N + 1) 33 #[I 5, I i, I code] (0, 0) _ rfl (set3 _ _ _ _ _ _ _ _ _ HQF.out) Tryz.underlying33 rfl (by kernel_rfl)) rfl ?_
                  have hfin : Below N w w6 := (HFIN.out wr HBV.out).trans (HB6.out.mono (by omega))
                  exact ⟨rfl, ((hfin.setCell (by show _ ≤ N + 1; omega) _).setCell (by show _ ≤ N + 1; omega) _).setCell (by show _ ≤ N + 1; omega) _⟩
                | false =>
                  have HE3 : Hid (firstBad (rm 11) (sizeM P 5 - (i + 1)) (i + 1) = firstBad (rm 11) (sizeM P 5) 0) := by have := HE2.out; rw [e] at this; exact this
                  go_wp2_with (first | (go_at_call 72; refine HC1.out.mono ?_; rintro e w6 ⟨rfl, hb6⟩; have HB6 := Lib.hid hb6; clear hb6))
                  go_roundg (sizeM P 5 + 1 - (i + 1))
                  case measure => have := HN2.out; omega
                  case rel => exact ⟨i + 1, by omega, by first | go_num | (rw [IntWalk.wrap64_in _ (by omega)]; go_num), rfl, HE3, HV.out.trans (HB6.out.mono (by have := HV.out.size; have := lt_of_block HM.out; omega))⟩
              · obtain rfl : i = sizeM P 5 := by omega
                have hnone : firstBad (rm 11) (sizeM P 5) 0 = none := by have := HE.out; rw [Nat.sub_self, firstBad] at this; exact this.symm
                have HD3 : Hid (rulesFrom P rm (13 - (11 + 1)) (11 + 1) = rulesFrom P rm 13 0) := by have := HD2.out; rw [hnone] at this; exact this
                have HZ2 : Hid (∀ k', k' < 11 + 1 → ∀ i', i' < sizeM P ((ruleParts.getD k' 0 : Nat) : Int) → rm k' i' = 0) := Lib.hid fun k' hk' i' hi' => by
                  by_cases ek : k' = 11
                  · subst ek
                    exact firstBad_none hnone i' (Nat.zero_le _) (by rw [Nat.zero_add]; exact hi')
                  · exact HZE.out k' (by omega) i' hi'
                clear hnone f0 f1 f2 m0 m1 mf
                go_wp2_with fail
                go_roundg (14 - (11 + 1))
                case measure => have := HN.out; omega
                case rel => exact ⟨11 + 1, by omega, by first | rfl | go_num, rfl, HD3, HZ2, HBV.out⟩
          · have r0 : wr.cell? ⟨N + 3, 24, none⟩ = some (I 4) := hrc 24
            have r1 : wr.cell? ⟨N + 3, 25, none⟩ = some (.func (.func 73) #[] #[]) := hrc 25
            have HD2 : Hid ((match firstBad (rm 12) (sizeM P 4) 0 with | some (i, c) => some (((4 : Nat) : Int), i, c) | none => rulesFrom P rm (13 - (12 + 1)) (12 + 1)) = rulesFrom P rm 13 0) := HD.out
            have hpt := HTX.out wr HW.out
            clear hrc HD
            go_upto_region 10 with fail
            change Code.wp _ _ _ _ (wr.alloc (.cells #[I 4, .func (.func 73) #[] #[]] 84))
            have hM : (wr.alloc (.cells #[I 4, .func (.func 73) #[] #[]] 84)).heap[wr.heap.size]? = some (.cells #[I 4, .func (.func 73) #[] #[]] 84) := heap_alloc_new wr _
            have hb5 : Below (N + 4) w4 (wr.alloc (.cells #[I 4, .func (.func 73) #[] #[]] 84)) := HW.out.alloc hws _
            generalize (wr.alloc (.cells #[I 4, .func (.func 73) #[] #[]] 84)) = w5 at *
            generalize hMM : wr.heap.size = M at *
            have m0 : w5.cell? ⟨M, 0, none⟩ = some (I 4) := cell_of_row _ _ 0 _ _ _ hM
            have HM := Lib.hid hM
            have HB5 := Lib.hid hb5
            clear hM hb5 r0 r1 hpt
            go_wp2_with (first | (go_at_call 31; refine (size_any P _ _ _ (HTX.out w5 HB5.out)).mono ?_; rintro e w2 ⟨rfl, rfl⟩; dsimp only))
            clear m0
            go_loopg [32] (sizeM P 4 + 1) (fun n v wx => ∃ i : Nat, i ≤ sizeM P 4 ∧ v = .int .i64 i ∧ Hid (n = sizeM P 4 + 1 - i) ∧ Hid (firstBad (rm 12) (sizeM P 4 - i) i = firstBad (rm 12) (sizeM P 4) 0) ∧ Hid (Below (M + 1) w5 wx))
            case atStart => exact ⟨0, by omega, rfl, rfl, rfl, Below.refl _ _⟩
            case round =>
              obtain ⟨i, hi, rfl, HN2, HE, HV⟩ := hrel
              have hbv : Below (N + 4) w4 wr := HB5.out.trans (HV.out.mono (by omega))
              have HBV := Lib.hid hbv
              have hsm : sizeM P 4 ≤ 140737488355328 := HSZ500.out 4
              have mh := (HV.out.block M (by omega)).trans HM.out
              have m0 : wr.cell? ⟨M, 0, none⟩ = some (I 4) := cell_of_row _ _ 0 _ _ _ mh
              have m1 : wr.cell? ⟨M, 1, none⟩ = some (.func (.func 73) #[] #[]) := cell_of_row _ _ 1 _ _ _ mh
              have mf := HFX.out wr hbv
              have f0 : wr.cell? ⟨N + 1, 0, none⟩ = some (I 0) := cell_of_row _ _ 0 _ _ _ mf
              have f1 : wr.cell? ⟨N + 1, 1, none⟩ = some (I 0) := cell_of_row _ _ 1 _ _ _ mf
              have f2 : wr.cell? ⟨N + 1, 2, none⟩ = some (I 0) := cell_of_row _ _ 2 _ _ _ mf
              clear hbv mh
              by_cases hlt2 : i < sizeM P 4
              · have d3 : ((i : Int) < (sizeM P 4 : Int)) := by omega
                have HE2 : Hid ((if (rm 12 i != 0) = true then some (i, rm 12 i) else firstBad (rm 12) (sizeM P 4 - (i + 1)) (i + 1)) = firstBad (rm 12) (sizeM P 4) 0) := by
                  have := HE.out
                  obtain ⟨m, hm⟩ : ∃ m, sizeM P 4 - i = m + 1 := ⟨sizeM P 4 - i - 1, by omega⟩
                  rw [hm, firstBad] at this
                  rw [show sizeM P 4 - (i + 1) = m by omega]
                  exact this
                have HC1 : Hid (Calls Tryz.prog 73 #[ptr (N + 1 + 1), I i] wr fun e w' => e = .returned (I (rm 12 i)) ∧ Below wr.heap.size wr w') := Lib.hid (HRU.out (N + 1 + 1) wr 12 i (HTX.out wr HBV.out) (HGX.out wr HBV.out) rfl (by omega) HZE.out hlt2)
                have hwrs : N + 1 < wr.heap.size := lt_of_block mf
                have hwm : M < wr.heap.size := by have := HV.out.size; have := lt_of_block HM.out; omega
                have HMF := Lib.hid mf
                generalize rm 12 i = code at *
                clear mf HE
                cases e : (code != 0) with
                | true =>
                  obtain rfl : (((4 : Nat) : Int), (i : Int), code) = res := by
                    have h1 := HR.out
                    unfold checkM at h1
                    rw [HTM.out, ← HD2.out, ← HE2.out, e] at h1
                    exact h1
                  go_wp2_with (first | (go_at_call 73; refine HC1.out.mono ?_; rintro e w6 ⟨rfl, hb6⟩; have n0 := (hb6.cell (p := ⟨M, 0, none⟩) hwm).trans m0; have q0 := (hb6.cell (p := ⟨N + 1, 0, none⟩) hwrs).trans f0; have q1 := (hb6.cell (p := ⟨N + 1, 1, none⟩) hwrs).trans f1; have q2 := (hb6.cell (p := ⟨N + 1, 2, none⟩) hwrs).trans f2; have HQF := Lib.hid ((hb6.block _ hwrs).trans HMF.out); have g0 : w6.frozen? ⟨N + 1, 0, none⟩ = false := frozen_of HQF.out; have g1 : w6.frozen? ⟨N + 1, 1, none⟩ = false := frozen_of HQF.out; have g2 : w6.frozen? ⟨N + 1, 2, none⟩ = false := frozen_of HQF.out; have HB6 := Lib.hid hb6; clear hb6))
                  refine bodyPost_ret (results_cell_row rfl _ _ (N + 1) 33 #[I 4, I i, I code] (0, 0) _ rfl (set3 _ _ _ _ _ _ _ _ _ HQF.out) Tryz.underlying33 rfl (by kernel_rfl)) rfl ?_
                  have hfin : Below N w w6 := (HFIN.out wr HBV.out).trans (HB6.out.mono (by omega))
                  exact ⟨rfl, ((hfin.setCell (by show _ ≤ N + 1; omega) _).setCell (by show _ ≤ N + 1; omega) _).setCell (by show _ ≤ N + 1; omega) _⟩
                | false =>
                  have HE3 : Hid (firstBad (rm 12) (sizeM P 4 - (i + 1)) (i + 1) = firstBad (rm 12) (sizeM P 4) 0) := by have := HE2.out; rw [e] at this; exact this
                  go_wp2_with (first | (go_at_call 73; refine HC1.out.mono ?_; rintro e w6 ⟨rfl, hb6⟩; have HB6 := Lib.hid hb6; clear hb6))
                  go_roundg (sizeM P 4 + 1 - (i + 1))
                  case measure => have := HN2.out; omega
                  case rel => exact ⟨i + 1, by omega, by first | go_num | (rw [IntWalk.wrap64_in _ (by omega)]; go_num), rfl, HE3, HV.out.trans (HB6.out.mono (by have := HV.out.size; have := lt_of_block HM.out; omega))⟩
              · obtain rfl : i = sizeM P 4 := by omega
                have hnone : firstBad (rm 12) (sizeM P 4) 0 = none := by have := HE.out; rw [Nat.sub_self, firstBad] at this; exact this.symm
                have HD3 : Hid (rulesFrom P rm (13 - (12 + 1)) (12 + 1) = rulesFrom P rm 13 0) := by have := HD2.out; rw [hnone] at this; exact this
                have HZ2 : Hid (∀ k', k' < 12 + 1 → ∀ i', i' < sizeM P ((ruleParts.getD k' 0 : Nat) : Int) → rm k' i' = 0) := Lib.hid fun k' hk' i' hi' => by
                  by_cases ek : k' = 12
                  · subst ek
                    exact firstBad_none hnone i' (Nat.zero_le _) (by rw [Nat.zero_add]; exact hi')
                  · exact HZE.out k' (by omega) i' hi'
                clear hnone f0 f1 f2 m0 m1 mf
                go_wp2_with fail
                go_roundg (14 - (12 + 1))
                case measure => have := HN.out; omega
                case rel => exact ⟨12 + 1, by omega, by first | rfl | go_num, rfl, HD3, HZ2, HBV.out⟩
        · obtain rfl : k = 13 := by omega
          have HRN : Hid (rulesFrom P rm 13 0 = none) := Lib.hid (by have := HD.out; rw [Nat.sub_self, rulesFrom] at this; exact this.symm)
          have hTX : TL wr (N + 1 + 1) P := HT4.out.move fun k hk => HW.out.block k (by omega)
          have hGX : Gl wr := HG4.out.below HW.out (by omega)
          have hFX : wr.heap[N + 1]? = some (.cells #[I 0, I 0, I 0] 33) := (HW.out.block _ (by omega)).trans HF4.out
          have hPX : wr.cell? ⟨N, 5, none⟩ = some (I P.main) := cell_of_row _ _ 5 _ _ _ ((HW.out.block _ (by omega)).trans HP4.out)
          have hfin : Below N w wr := HB4.out.trans (HW.out.mono (by omega))
          have HC1 : Hid (Calls Tryz.prog 33 #[ptr (N + 1 + 1)] wr fun e w' => e = .returned (I mm) ∧ Below wr.heap.size wr w') := Lib.hid (HMA.out (N + 1 + 1) wr hTX hGX rfl HZE.out)
          have f0 : wr.cell? ⟨N + 1, 0, none⟩ = some (I 0) := cell_of_row _ _ 0 _ _ _ hFX
          have f1 : wr.cell? ⟨N + 1, 1, none⟩ = some (I 0) := cell_of_row _ _ 1 _ _ _ hFX
          have f2 : wr.cell? ⟨N + 1, 2, none⟩ = some (I 0) := cell_of_row _ _ 2 _ _ _ hFX
          have hwrs : N + 1 < wr.heap.size := lt_of_block hFX
          have hwn : N < wr.heap.size := by omega
          have HMF := Lib.hid hFX
          have HFN := Lib.hid hfin
          clear hTX hGX hFX hfin HB4 HT4 HF4 HG4 HP4 HRB HS4 HD
          cases e : (mm != 0) with
          | true =>
            obtain rfl : ((6, P.main, mm) : Int × Int × Int) = res := by
              have h1 := HR.out
              unfold checkM at h1
              rw [HTM.out, HRN.out, e] at h1
              exact h1
            go_wp2_with (first | (go_at_call 33; refine HC1.out.mono ?_; rintro e w6 ⟨rfl, hb6⟩; have n5 := (hb6.cell (p := ⟨N, 5, none⟩) hwn).trans hPX; have q0 := (hb6.cell (p := ⟨N + 1, 0, none⟩) hwrs).trans f0; have q1 := (hb6.cell (p := ⟨N + 1, 1, none⟩) hwrs).trans f1; have q2 := (hb6.cell (p := ⟨N + 1, 2, none⟩) hwrs).trans f2; have HQF := Lib.hid ((hb6.block _ hwrs).trans HMF.out); have g0 : w6.frozen? ⟨N + 1, 0, none⟩ = false := frozen_of HQF.out; have g1 : w6.frozen? ⟨N + 1, 1, none⟩ = false := frozen_of HQF.out; have g2 : w6.frozen? ⟨N + 1, 2, none⟩ = false := frozen_of HQF.out; have HB6 := Lib.hid hb6; clear hb6))
            refine bodyPost_ret (results_cell_row rfl _ _ (N + 1) 33 #[I 6, I P.main, I mm] (0, 0) _ rfl (set3 _ _ _ _ _ _ _ _ _ HQF.out) Tryz.underlying33 rfl (by kernel_rfl)) rfl ?_
            have hfin : Below N w w6 := HFN.out.trans (HB6.out.mono (by omega))
            exact ⟨rfl, ((hfin.setCell (by show _ ≤ N + 1; omega) _).setCell (by show _ ≤ N + 1; omega) _).setCell (by show _ ≤ N + 1; omega) _⟩
          | false =>
            obtain rfl : ((0, 0, 0) : Int × Int × Int) = res := by
              have h1 := HR.out
              unfold checkM at h1
              rw [HTM.out, HRN.out, e] at h1
              exact h1
            go_wp2_with (first | (go_at_call 33; refine HC1.out.mono ?_; rintro e w6 ⟨rfl, hb6⟩; have q0 := (hb6.cell (p := ⟨N + 1, 0, none⟩) hwrs).trans f0; have q1 := (hb6.cell (p := ⟨N + 1, 1, none⟩) hwrs).trans f1; have q2 := (hb6.cell (p := ⟨N + 1, 2, none⟩) hwrs).trans f2; have HQF := Lib.hid ((hb6.block _ hwrs).trans HMF.out); have g0 : w6.frozen? ⟨N + 1, 0, none⟩ = false := frozen_of HQF.out; have g1 : w6.frozen? ⟨N + 1, 1, none⟩ = false := frozen_of HQF.out; have g2 : w6.frozen? ⟨N + 1, 2, none⟩ = false := frozen_of HQF.out; have HB6 := Lib.hid hb6; clear hb6))
            refine bodyPost_ret (results_cell_row rfl _ _ (N + 1) 33 #[I 0, I 0, I 0] (0, 0) _ rfl (set3 _ _ _ _ _ _ _ _ _ HQF.out) Tryz.underlying33 rfl (by kernel_rfl)) rfl ?_
            have hfin : Below N w w6 := HFN.out.trans (HB6.out.mono (by omega))
            exact ⟨rfl, ((hfin.setCell (by show _ ≤ N + 1; omega) _).setCell (by show _ ≤ N + 1; omega) _).setCell (by show _ ≤ N + 1; omega) _⟩
end Go.Proofs.YtfbaikijnjafbaaGreatDoor
