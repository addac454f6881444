/- What a call keeps that counts down one cell; the loops of slices.IndexFunc. -/
import Derived.Test.YtfbaikijnjafbaaGreatDoorOp
namespace Go.Proofs.YtfbaikijnjafbaaGreatDoor
set_option linter.unusedSimpArgs false
set_option linter.unusedVariables false
open Go.RowKit
set_option maxRecDepth 100000

/-- Nothing that was there has turned but the number in the cell of block g. -/
structure Kp (g : Nat) (w w' : World) (n : Int) : Prop where
  os : w'.os = w.os
  tape : w'.tape = w.tape
  output : w'.output = w.output
  size : w.heap.size ≤ w'.heap.size
  block : ∀ k, k < w.heap.size → k ≠ g → w'.heap[k]? = w.heap[k]?
  cell : w'.cell? ⟨g, 0, none⟩ = some (I n)
  frozen : w'.frozen? ⟨g, 0, none⟩ = false

abbrev okg (g : Nat) (w : World) : Nat → Prop := fun k => k < w.heap.size ∧ k ≠ g

theorem Kp.trans {g : Nat} {a b c : World} {m n : Int} (h : Kp g a b m) (k : Kp g b c n) : Kp g a c n :=
  ⟨k.os.trans h.os, k.tape.trans h.tape, k.output.trans h.output, Nat.le_trans h.size k.size, fun i hi hg => (k.block i (Nat.lt_of_lt_of_le hi h.size) hg).trans (h.block i hi hg), k.cell, k.frozen⟩

/-- The first element for which the callback says yes; the number is handed on. -/
def anyM {α : Type} (cb : α → Int → Bool × Int) : List α → Int → Bool × Int
  | [], n => (false, n)
  | a :: l, n => if (cb a n).1 = true then (true, (cb a n).2) else anyM cb l (cb a n).2

theorem ty_cells {w : World} {b o : Nat} {T : Ty} (h : CellsIn w b o T.cells) :
    w.cell? ⟨b, o, none⟩ = some (I T.k) ∧ w.cell? ⟨b, o + 1, none⟩ = some (I T.s) ∧ w.cell? ⟨b, o + 2, none⟩ = some (.string T.nm) ∧ w.cell? ⟨b, o + 3, none⟩ = some (I T.n) ∧ w.cell? ⟨b, o + 4, none⟩ = some T.args.v :=
  ⟨h 0 (by simp [Ty.cells]), h 1 (by simp [Ty.cells]), h 2 (by simp [Ty.cells]), h 3 (by simp [Ty.cells]), h 4 (by simp [Ty.cells])⟩

/-- Where element i of a slice lies. -/
theorem sl_at {α : Type} {ok : Nat → Prop} {w : World} {st by_ : Nat} {cells : α → List Value} {s : Sl α} (h : SlAt ok w st by_ cells s) (h0 : 0 < s.l.length) :
    ∃ b o, s.a = some ⟨b, o, none⟩ ∧ ok b ∧ ∀ i (hi : i < s.l.length), CellsIn w b (o + i * st) (cells s.l[i]) := by
  rcases h.2.2 with h | h
  · rw [h] at h0; exact absurd h0 (by simp)
  · exact h

theorem tre_cells {w : World} {b o : Nat} {T : Tre} (h : CellsIn w b o T.cells) :
    w.cell? ⟨b, o, none⟩ = some (I T.k) ∧ w.cell? ⟨b, o + 1, none⟩ = some (I T.s) ∧ w.cell? ⟨b, o + 2, none⟩ = some (I T.n) ∧ w.cell? ⟨b, o + 3, none⟩ = some (.string T.tx) ∧ w.cell? ⟨b, o + 4, none⟩ = some (I T.ty.k) ∧
    w.cell? ⟨b, o + 5, none⟩ = some (I T.ty.s) ∧ w.cell? ⟨b, o + 6, none⟩ = some (.string T.ty.nm) ∧ w.cell? ⟨b, o + 7, none⟩ = some (I T.ty.n) ∧ w.cell? ⟨b, o + 8, none⟩ = some T.ty.args.v ∧ w.cell? ⟨b, o + 9, none⟩ = some T.tys.v ∧
    w.cell? ⟨b, o + 10, none⟩ = some T.kids.v ∧ w.cell? ⟨b, o + 11, none⟩ = some (I T.p) :=
  ⟨h 0 (by simp [Tre.cells]), h 1 (by simp [Tre.cells]), h 2 (by simp [Tre.cells]), h 3 (by simp [Tre.cells]), h 4 (by simp [Tre.cells]), h 5 (by simp [Tre.cells]), h 6 (by simp [Tre.cells]), h 7 (by simp [Tre.cells]), h 8 (by simp [Tre.cells]), h 9 (by simp [Tre.cells]), h 10 (by simp [Tre.cells]), h 11 (by simp [Tre.cells])⟩
theorem loc_cells {w : World} {b o : Nat} {T : Loc} (h : CellsIn w b o T.cells) :
    w.cell? ⟨b, o, none⟩ = some (.string T.nm) ∧ w.cell? ⟨b, o + 1, none⟩ = some (I T.flags) ∧ w.cell? ⟨b, o + 2, none⟩ = some (I T.ty.k) ∧
    w.cell? ⟨b, o + 3, none⟩ = some (I T.ty.s) ∧ w.cell? ⟨b, o + 4, none⟩ = some (.string T.ty.nm) ∧ w.cell? ⟨b, o + 5, none⟩ = some (I T.ty.n) ∧ w.cell? ⟨b, o + 6, none⟩ = some T.ty.args.v :=
  ⟨h 0 (by simp [Loc.cells]), h 1 (by simp [Loc.cells]), h 2 (by simp [Loc.cells]), h 3 (by simp [Loc.cells]), h 4 (by simp [Loc.cells]), h 5 (by simp [Loc.cells]), h 6 (by simp [Loc.cells])⟩
theorem tym_cells {w : World} {b o : Nat} {T : Tym} (h : CellsIn w b o T.cells) :
    w.cell? ⟨b, o, none⟩ = some (.string T.nm) ∧ w.cell? ⟨b, o + 1, none⟩ = some (I T.owner) ∧ w.cell? ⟨b, o + 2, none⟩ = some (I T.ar) ∧ w.cell? ⟨b, o + 3, none⟩ = some (I T.lo.k) ∧
    w.cell? ⟨b, o + 4, none⟩ = some (I T.lo.s) ∧ w.cell? ⟨b, o + 5, none⟩ = some (.string T.lo.nm) ∧ w.cell? ⟨b, o + 6, none⟩ = some (I T.lo.n) ∧ w.cell? ⟨b, o + 7, none⟩ = some T.lo.args.v ∧
    w.cell? ⟨b, o + 8, none⟩ = some (I T.hi.k) ∧ w.cell? ⟨b, o + 9, none⟩ = some (I T.hi.s) ∧ w.cell? ⟨b, o + 10, none⟩ = some (.string T.hi.nm) ∧ w.cell? ⟨b, o + 11, none⟩ = some (I T.hi.n) ∧ w.cell? ⟨b, o + 12, none⟩ = some T.hi.args.v :=
  ⟨h 0 (by simp [Tym.cells]), h 1 (by simp [Tym.cells]), h 2 (by simp [Tym.cells]), h 3 (by simp [Tym.cells]), h 4 (by simp [Tym.cells]), h 5 (by simp [Tym.cells]), h 6 (by simp [Tym.cells]), h 7 (by simp [Tym.cells]), h 8 (by simp [Tym.cells]), h 9 (by simp [Tym.cells]), h 10 (by simp [Tym.cells]), h 11 (by simp [Tym.cells]), h 12 (by simp [Tym.cells])⟩
theorem LocL.imp {ok ok' : Nat → Prop} {w : World} {c : Loc} (h : LocL ok w c) (hb : ∀ k, ok k → ok' k) : LocL ok' w c := ⟨h.1, h.2.1, h.2.2.imp hb⟩
theorem TymL.imp {ok ok' : Nat → Prop} {w : World} {c : Tym} (h : TymL ok w c) (hb : ∀ k, ok k → ok' k) : TymL ok' w c := ⟨h.1, h.2.1, h.2.2.1.imp hb, h.2.2.2.imp hb⟩

/-- slices.IndexFunc over Ty: some number, not below 0 just if the callback says yes once. -/
theorem idx81_any (g : Nat) (s : Sl Ty) (cv : Array Value) (cb : Ty → Int → Bool × Int) (w : World) (n0 : Int) (hs : SlAt (okg g w) w 5 64 Ty.cells s ∧ ∀ c ∈ s.l, TyL (okg g w) w c) (hc : w.cell? ⟨g, 0, none⟩ = some (I n0)) (hf : w.frozen? ⟨g, 0, none⟩ = false)
    (hcall : ∀ (w1 : World) (T : Ty) (n : Int), Kp g w w1 n → TyL (okg g w1) w1 T → Calls Tryz.prog 55 (#[.agg T.cells.toArray] ++ cv) w1 fun e w' => e = .returned (.bool (cb T n).1) ∧ Kp g w1 w' (cb T n).2) :
    Calls Tryz.prog 91 #[s.v, .func (.func 55) #[] cv] w fun e w' => ∃ i, e = .returned (I i) ∧ decide (0 ≤ i) = (anyM cb s.l n0).1 ∧ Kp g w w' (anyM cb s.l n0).2 := by
  obtain ⟨a, cap, l⟩ := s
  have hl : l.length ≤ 140737488351232 := by
    have h1 := hs.1.1; have h2 := hs.1.2.1
    dsimp only at h1 h2
    omega
  unfold Sl.v
  dsimp only
  generalize hres : anyM cb l n0 = res
  have HS := Lib.hid hs
  have HL := Lib.hid hl
  have HC := Lib.hid hcall
  have HR := Lib.hid hres
  clear hs hl hcall hres
  go_enter Tryz.func91, Tryz.ntmps91
  go_wp2_with fail
  go_loopg [8] (l.length + 1) (fun n v wr => ∃ i : Nat, i ≤ l.length ∧ v = .int .i64 i ∧ Hid (n = l.length + 1 - i) ∧ Hid (∃ m, Kp g w wr m ∧ anyM cb (l.drop i) m = res))
  case atStart => exact ⟨0, by omega, rfl, rfl, n0, ⟨rfl, rfl, rfl, Nat.le_refl _, fun _ _ _ => rfl, hc, hf⟩, HR.out⟩
  case round =>
    obtain ⟨i, hi, rfl, HN, HM⟩ := hrel
    obtain ⟨m, hk0, hm⟩ := HM.out
    have HK := Lib.hid hk0
    have HMM := Lib.hid hm
    clear hk0 hm HM
    by_cases hlt : i < l.length
    · have d2 : ((i : Int) < (l.length : Int)) := by omega
      obtain ⟨b, o, ha, hok, hcs⟩ := sl_at HS.out.1 (by show 0 < l.length; omega)
      dsimp only at ha
      subst ha
      have hb : wr.heap[b]? = w.heap[b]? := HK.out.block b hok.1 hok.2
      have ht := ty_cells ((hcs i hlt).same hb)
      have hT : TyL (okg g wr) wr l[i] := ((HS.out.2 _ (List.getElem_mem hlt)).same fun k hk => HK.out.block k hk.1 hk.2).imp fun k hk => ⟨Nat.lt_of_lt_of_le hk.1 HK.out.size, hk.2⟩
      have HT := Lib.hid hT
      have HD : Hid (anyM cb (l[i] :: l.drop (i + 1)) m = res) := Lib.hid (by rw [← List.drop_eq_getElem_cons hlt]; exact HMM.out)
      clear hT hcs hok hb HMM
      dsimp only at ht
      generalize l[i] = T at *
      obtain ⟨t0, t1, t2, t3, t4⟩ := ht
      have HCT := Lib.hid (HC.out wr T m HK.out HT.out)
      generalize hq : cb T m = q at HCT
      have HQ := Lib.hid hq
      clear hq
      obtain ⟨qb, qn⟩ := q
      cases qb
      · go_wp2_with (go_at_call 55; refine HCT.out.mono ?_; rintro e w' ⟨rfl, hk⟩)
        have := HL.out
        go_roundg (l.length + 1 - (i + 1))
        case measure => have := HN.out; omega
        case rel =>
          refine ⟨i + 1, by omega, by rw [IntWalk.wrap64_in _ (by omega)]; go_num, rfl, qn, HK.out.trans hk, ?_⟩
          have h1 := HD.out
          rw [anyM, HQ.out] at h1
          simpa using h1
      · go_wp2_with (go_at_call 55; refine HCT.out.mono ?_; rintro e w' ⟨rfl, hk⟩)
        go_ret
        have h1 := HD.out
        rw [anyM, HQ.out] at h1
        simp only [if_true] at h1
        subst h1
        exact ⟨i, rfl, by simp, HK.out.trans hk⟩
    · obtain rfl : i = l.length := by omega
      go_wp2_with fail
      go_ret
      have h1 := HMM.out
      rw [List.drop_length, anyM] at h1
      subst h1
      exact ⟨-1, rfl, (by decide : decide ((0 : Int) ≤ -1) = false), HK.out⟩

/-- slices.ContainsFunc over Ty. -/
theorem con58_any (g : Nat) (s : Sl Ty) (cv : Array Value) (cb : Ty → Int → Bool × Int) (w : World) (n0 : Int) (hs : SlAt (okg g w) w 5 64 Ty.cells s ∧ ∀ c ∈ s.l, TyL (okg g w) w c) (hc : w.cell? ⟨g, 0, none⟩ = some (I n0)) (hf : w.frozen? ⟨g, 0, none⟩ = false)
    (hcall : ∀ (w1 : World) (T : Ty) (n : Int), Kp g w w1 n → TyL (okg g w1) w1 T → Calls Tryz.prog 55 (#[.agg T.cells.toArray] ++ cv) w1 fun e w' => e = .returned (.bool (cb T n).1) ∧ Kp g w1 w' (cb T n).2) :
    Calls Tryz.prog 54 #[s.v, .func (.func 55) #[] cv] w fun e w' => e = .returned (.bool (anyM cb s.l n0).1) ∧ Kp g w w' (anyM cb s.l n0).2 := by
  have H := Lib.hid (idx81_any g s cv cb w n0 hs hc hf hcall)
  generalize anyM cb s.l n0 = res at *
  clear hs hcall hc hf
  go_enter Tryz.func54, Tryz.ntmps54
  go_wp2_with (go_at_call 91; refine H.out.mono ?_; rintro e w' ⟨i, rfl, hi, hk⟩; have HI := Lib.hid hi; clear hi)
  all_goals go_ret
  all_goals exact ⟨congrArg (fun b => Ending.returned (Value.bool b)) HI.out, hk⟩

/-- slices.IndexFunc over Tre: some number, not below 0 just if the callback says yes once. -/
theorem idx82_any (g : Nat) (s : Sl Tre) (cv : Array Value) (cb : Tre → Int → Bool × Int) (w : World) (n0 : Int) (hs : SlAt (okg g w) w 12 160 Tre.cells s ∧ ∀ c ∈ s.l, TreL (okg g w) w c) (hc : w.cell? ⟨g, 0, none⟩ = some (I n0)) (hf : w.frozen? ⟨g, 0, none⟩ = false)
    (hcall : ∀ (w1 : World) (T : Tre) (n : Int), Kp g w w1 n → TreL (okg g w1) w1 T → Calls Tryz.prog 57 (#[.agg T.cells.toArray] ++ cv) w1 fun e w' => e = .returned (.bool (cb T n).1) ∧ Kp g w1 w' (cb T n).2) :
    Calls Tryz.prog 92 #[s.v, .func (.func 57) #[] cv] w fun e w' => ∃ i, e = .returned (I i) ∧ decide (0 ≤ i) = (anyM cb s.l n0).1 ∧ Kp g w w' (anyM cb s.l n0).2 := by
  obtain ⟨a, cap, l⟩ := s
  have hl : l.length ≤ 140737488351232 := by
    have h1 := hs.1.1; have h2 := hs.1.2.1
    dsimp only at h1 h2
    omega
  unfold Sl.v
  dsimp only
  generalize hres : anyM cb l n0 = res
  have HS := Lib.hid hs
  have HL := Lib.hid hl
  have HC := Lib.hid hcall
  have HR := Lib.hid hres
  clear hs hl hcall hres
  go_enter Tryz.func92, Tryz.ntmps92
  go_wp2_with fail
  go_loopg [8] (l.length + 1) (fun n v wr => ∃ i : Nat, i ≤ l.length ∧ v = .int .i64 i ∧ Hid (n = l.length + 1 - i) ∧ Hid (∃ m, Kp g w wr m ∧ anyM cb (l.drop i) m = res))
  case atStart => exact ⟨0, by omega, rfl, rfl, n0, ⟨rfl, rfl, rfl, Nat.le_refl _, fun _ _ _ => rfl, hc, hf⟩, HR.out⟩
  case round =>
    obtain ⟨i, hi, rfl, HN, HM⟩ := hrel
    obtain ⟨m, hk0, hm⟩ := HM.out
    have HK := Lib.hid hk0
    have HMM := Lib.hid hm
    clear hk0 hm HM
    by_cases hlt : i < l.length
    · have d2 : ((i : Int) < (l.length : Int)) := by omega
      obtain ⟨b, o, ha, hok, hcs⟩ := sl_at HS.out.1 (by show 0 < l.length; omega)
      dsimp only at ha
      subst ha
      have hb : wr.heap[b]? = w.heap[b]? := HK.out.block b hok.1 hok.2
      have ht := tre_cells ((hcs i hlt).same hb)
      have hT : TreL (okg g wr) wr l[i] := ((HS.out.2 _ (List.getElem_mem hlt)).same fun k hk => HK.out.block k hk.1 hk.2).imp fun k hk => ⟨Nat.lt_of_lt_of_le hk.1 HK.out.size, hk.2⟩
      have HT := Lib.hid hT
      have HD : Hid (anyM cb (l[i] :: l.drop (i + 1)) m = res) := Lib.hid (by rw [← List.drop_eq_getElem_cons hlt]; exact HMM.out)
      clear hT hcs hok hb HMM
      dsimp only at ht
      generalize l[i] = T at *
      obtain ⟨t0, t1, t2, t3, t4, t5, t6, t7, t8, t9, t10, t11⟩ := ht
      have HCT := Lib.hid (HC.out wr T m HK.out HT.out)
      generalize hq : cb T m = q at HCT
      have HQ := Lib.hid hq
      clear hq
      obtain ⟨qb, qn⟩ := q
      cases qb
      · go_wp2_with (go_at_call 57; refine HCT.out.mono ?_; rintro e w' ⟨rfl, hk⟩)
        have := HL.out
        go_roundg (l.length + 1 - (i + 1))
        case measure => have := HN.out; omega
        case rel =>
          refine ⟨i + 1, by omega, by rw [IntWalk.wrap64_in _ (by omega)]; go_num, rfl, qn, HK.out.trans hk, ?_⟩
          have h1 := HD.out
          rw [anyM, HQ.out] at h1
          simpa using h1
      · go_wp2_with (go_at_call 57; refine HCT.out.mono ?_; rintro e w' ⟨rfl, hk⟩)
        go_ret
        have h1 := HD.out
        rw [anyM, HQ.out] at h1
        simp only [if_true] at h1
        subst h1
        exact ⟨i, rfl, by simp, HK.out.trans hk⟩
    · obtain rfl : i = l.length := by omega
      go_wp2_with fail
      go_ret
      have h1 := HMM.out
      rw [List.drop_length, anyM] at h1
      subst h1
      exact ⟨-1, rfl, (by decide : decide ((0 : Int) ≤ -1) = false), HK.out⟩

/-- slices.ContainsFunc over Tre. -/
theorem con60_any (g : Nat) (s : Sl Tre) (cv : Array Value) (cb : Tre → Int → Bool × Int) (w : World) (n0 : Int) (hs : SlAt (okg g w) w 12 160 Tre.cells s ∧ ∀ c ∈ s.l, TreL (okg g w) w c) (hc : w.cell? ⟨g, 0, none⟩ = some (I n0)) (hf : w.frozen? ⟨g, 0, none⟩ = false)
    (hcall : ∀ (w1 : World) (T : Tre) (n : Int), Kp g w w1 n → TreL (okg g w1) w1 T → Calls Tryz.prog 57 (#[.agg T.cells.toArray] ++ cv) w1 fun e w' => e = .returned (.bool (cb T n).1) ∧ Kp g w1 w' (cb T n).2) :
    Calls Tryz.prog 56 #[s.v, .func (.func 57) #[] cv] w fun e w' => e = .returned (.bool (anyM cb s.l n0).1) ∧ Kp g w w' (anyM cb s.l n0).2 := by
  have H := Lib.hid (idx82_any g s cv cb w n0 hs hc hf hcall)
  generalize anyM cb s.l n0 = res at *
  clear hs hcall hc hf
  go_enter Tryz.func56, Tryz.ntmps56
  go_wp2_with (go_at_call 92; refine H.out.mono ?_; rintro e w' ⟨i, rfl, hi, hk⟩; have HI := Lib.hid hi; clear hi)
  all_goals go_ret
  all_goals exact ⟨congrArg (fun b => Ending.returned (Value.bool b)) HI.out, hk⟩

/-- slices.IndexFunc over Loc: some number, not below 0 just if the callback says yes once. -/
theorem idx83_any (g : Nat) (s : Sl Loc) (cv : Array Value) (cb : Loc → Int → Bool × Int) (w : World) (n0 : Int) (hs : SlAt (okg g w) w 7 88 Loc.cells s ∧ ∀ c ∈ s.l, LocL (okg g w) w c) (hc : w.cell? ⟨g, 0, none⟩ = some (I n0)) (hf : w.frozen? ⟨g, 0, none⟩ = false)
    (hcall : ∀ (w1 : World) (T : Loc) (n : Int), Kp g w w1 n → LocL (okg g w1) w1 T → Calls Tryz.prog 59 (#[.agg T.cells.toArray] ++ cv) w1 fun e w' => e = .returned (.bool (cb T n).1) ∧ Kp g w1 w' (cb T n).2) :
    Calls Tryz.prog 93 #[s.v, .func (.func 59) #[] cv] w fun e w' => ∃ i, e = .returned (I i) ∧ decide (0 ≤ i) = (anyM cb s.l n0).1 ∧ Kp g w w' (anyM cb s.l n0).2 := by
  obtain ⟨a, cap, l⟩ := s
  have hl : l.length ≤ 140737488351232 := by
    have h1 := hs.1.1; have h2 := hs.1.2.1
    dsimp only at h1 h2
    omega
  unfold Sl.v
  dsimp only
  generalize hres : anyM cb l n0 = res
  have HS := Lib.hid hs
  have HL := Lib.hid hl
  have HC := Lib.hid hcall
  have HR := Lib.hid hres
  clear hs hl hcall hres
  go_enter Tryz.func93, Tryz.ntmps93
  go_wp2_with fail
  go_loopg [8] (l.length + 1) (fun n v wr => ∃ i : Nat, i ≤ l.length ∧ v = .int .i64 i ∧ Hid (n = l.length + 1 - i) ∧ Hid (∃ m, Kp g w wr m ∧ anyM cb (l.drop i) m = res))
  case atStart => exact ⟨0, by omega, rfl, rfl, n0, ⟨rfl, rfl, rfl, Nat.le_refl _, fun _ _ _ => rfl, hc, hf⟩, HR.out⟩
  case round =>
    obtain ⟨i, hi, rfl, HN, HM⟩ := hrel
    obtain ⟨m, hk0, hm⟩ := HM.out
    have HK := Lib.hid hk0
    have HMM := Lib.hid hm
    clear hk0 hm HM
    by_cases hlt : i < l.length
    · have d2 : ((i : Int) < (l.length : Int)) := by omega
      obtain ⟨b, o, ha, hok, hcs⟩ := sl_at HS.out.1 (by show 0 < l.length; omega)
      dsimp only at ha
      subst ha
      have hb : wr.heap[b]? = w.heap[b]? := HK.out.block b hok.1 hok.2
      have ht := loc_cells ((hcs i hlt).same hb)
      have hT : LocL (okg g wr) wr l[i] := ((HS.out.2 _ (List.getElem_mem hlt)).same fun k hk => HK.out.block k hk.1 hk.2).imp fun k hk => ⟨Nat.lt_of_lt_of_le hk.1 HK.out.size, hk.2⟩
      have HT := Lib.hid hT
      have HD : Hid (anyM cb (l[i] :: l.drop (i + 1)) m = res) := Lib.hid (by rw [← List.drop_eq_getElem_cons hlt]; exact HMM.out)
      clear hT hcs hok hb HMM
      dsimp only at ht
      generalize l[i] = T at *
      obtain ⟨t0, t1, t2, t3, t4, t5, t6⟩ := ht
      have HCT := Lib.hid (HC.out wr T m HK.out HT.out)
      generalize hq : cb T m = q at HCT
      have HQ := Lib.hid hq
      clear hq
      obtain ⟨qb, qn⟩ := q
      cases qb
      · go_wp2_with (go_at_call 59; refine HCT.out.mono ?_; rintro e w' ⟨rfl, hk⟩)
        have := HL.out
        go_roundg (l.length + 1 - (i + 1))
        case measure => have := HN.out; omega
        case rel =>
          refine ⟨i + 1, by omega, by rw [IntWalk.wrap64_in _ (by omega)]; go_num, rfl, qn, HK.out.trans hk, ?_⟩
          have h1 := HD.out
          rw [anyM, HQ.out] at h1
          simpa using h1
      · go_wp2_with (go_at_call 59; refine HCT.out.mono ?_; rintro e w' ⟨rfl, hk⟩)
        go_ret
        have h1 := HD.out
        rw [anyM, HQ.out] at h1
        simp only [if_true] at h1
        subst h1
        exact ⟨i, rfl, by simp, HK.out.trans hk⟩
    · obtain rfl : i = l.length := by omega
      go_wp2_with fail
      go_ret
      have h1 := HMM.out
      rw [List.drop_length, anyM] at h1
      subst h1
      exact ⟨-1, rfl, (by decide : decide ((0 : Int) ≤ -1) = false), HK.out⟩

/-- slices.ContainsFunc over Loc. -/
theorem con62_any (g : Nat) (s : Sl Loc) (cv : Array Value) (cb : Loc → Int → Bool × Int) (w : World) (n0 : Int) (hs : SlAt (okg g w) w 7 88 Loc.cells s ∧ ∀ c ∈ s.l, LocL (okg g w) w c) (hc : w.cell? ⟨g, 0, none⟩ = some (I n0)) (hf : w.frozen? ⟨g, 0, none⟩ = false)
    (hcall : ∀ (w1 : World) (T : Loc) (n : Int), Kp g w w1 n → LocL (okg g w1) w1 T → Calls Tryz.prog 59 (#[.agg T.cells.toArray] ++ cv) w1 fun e w' => e = .returned (.bool (cb T n).1) ∧ Kp g w1 w' (cb T n).2) :
    Calls Tryz.prog 58 #[s.v, .func (.func 59) #[] cv] w fun e w' => e = .returned (.bool (anyM cb s.l n0).1) ∧ Kp g w w' (anyM cb s.l n0).2 := by
  have H := Lib.hid (idx83_any g s cv cb w n0 hs hc hf hcall)
  generalize anyM cb s.l n0 = res at *
  clear hs hcall hc hf
  go_enter Tryz.func58, Tryz.ntmps58
  go_wp2_with (go_at_call 93; refine H.out.mono ?_; rintro e w' ⟨i, rfl, hi, hk⟩; have HI := Lib.hid hi; clear hi)
  all_goals go_ret
  all_goals exact ⟨congrArg (fun b => Ending.returned (Value.bool b)) HI.out, hk⟩

/-- slices.IndexFunc over Tym: some number, not below 0 just if the callback says yes once. -/
theorem idx64_any (g : Nat) (s : Sl Tym) (cv : Array Value) (cb : Tym → Int → Bool × Int) (w : World) (n0 : Int) (hs : SlAt (okg g w) w 13 160 Tym.cells s ∧ ∀ c ∈ s.l, TymL (okg g w) w c) (hc : w.cell? ⟨g, 0, none⟩ = some (I n0)) (hf : w.frozen? ⟨g, 0, none⟩ = false)
    (hcall : ∀ (w1 : World) (T : Tym) (n : Int), Kp g w w1 n → TymL (okg g w1) w1 T → Calls Tryz.prog 29 (#[.agg T.cells.toArray] ++ cv) w1 fun e w' => e = .returned (.bool (cb T n).1) ∧ Kp g w1 w' (cb T n).2) :
    Calls Tryz.prog 60 #[s.v, .func (.func 29) #[] cv] w fun e w' => ∃ i, e = .returned (I i) ∧ decide (0 ≤ i) = (anyM cb s.l n0).1 ∧ Kp g w w' (anyM cb s.l n0).2 := by
  obtain ⟨a, cap, l⟩ := s
  have hl : l.length ≤ 140737488351232 := by
    have h1 := hs.1.1; have h2 := hs.1.2.1
    dsimp only at h1 h2
    omega
  unfold Sl.v
  dsimp only
  generalize hres : anyM cb l n0 = res
  have HS := Lib.hid hs
  have HL := Lib.hid hl
  have HC := Lib.hid hcall
  have HR := Lib.hid hres
  clear hs hl hcall hres
  go_enter Tryz.func60, Tryz.ntmps60
  go_wp2_with fail
  go_loopg [8] (l.length + 1) (fun n v wr => ∃ i : Nat, i ≤ l.length ∧ v = .int .i64 i ∧ Hid (n = l.length + 1 - i) ∧ Hid (∃ m, Kp g w wr m ∧ anyM cb (l.drop i) m = res))
  case atStart => exact ⟨0, by omega, rfl, rfl, n0, ⟨rfl, rfl, rfl, Nat.le_refl _, fun _ _ _ => rfl, hc, hf⟩, HR.out⟩
  case round =>
    obtain ⟨i, hi, rfl, HN, HM⟩ := hrel
    obtain ⟨m, hk0, hm⟩ := HM.out
    have HK := Lib.hid hk0
    have HMM := Lib.hid hm
    clear hk0 hm HM
    by_cases hlt : i < l.length
    · have d2 : ((i : Int) < (l.length : Int)) := by omega
      obtain ⟨b, o, ha, hok, hcs⟩ := sl_at HS.out.1 (by show 0 < l.length; omega)
      dsimp only at ha
      subst ha
      have hb : wr.heap[b]? = w.heap[b]? := HK.out.block b hok.1 hok.2
      have ht := tym_cells ((hcs i hlt).same hb)
      have hT : TymL (okg g wr) wr l[i] := ((HS.out.2 _ (List.getElem_mem hlt)).same fun k hk => HK.out.block k hk.1 hk.2).imp fun k hk => ⟨Nat.lt_of_lt_of_le hk.1 HK.out.size, hk.2⟩
      have HT := Lib.hid hT
      have HD : Hid (anyM cb (l[i] :: l.drop (i + 1)) m = res) := Lib.hid (by rw [← List.drop_eq_getElem_cons hlt]; exact HMM.out)
      clear hT hcs hok hb HMM
      dsimp only at ht
      generalize l[i] = T at *
      obtain ⟨t0, t1, t2, t3, t4, t5, t6, t7, t8, t9, t10, t11, t12⟩ := ht
      have HCT := Lib.hid (HC.out wr T m HK.out HT.out)
      generalize hq : cb T m = q at HCT
      have HQ := Lib.hid hq
      clear hq
      obtain ⟨qb, qn⟩ := q
      cases qb
      · go_wp2_with (go_at_call 29; refine HCT.out.mono ?_; rintro e w' ⟨rfl, hk⟩)
        have := HL.out
        go_roundg (l.length + 1 - (i + 1))
        case measure => have := HN.out; omega
        case rel =>
          refine ⟨i + 1, by omega, by rw [IntWalk.wrap64_in _ (by omega)]; go_num, rfl, qn, HK.out.trans hk, ?_⟩
          have h1 := HD.out
          rw [anyM, HQ.out] at h1
          simpa using h1
      · go_wp2_with (go_at_call 29; refine HCT.out.mono ?_; rintro e w' ⟨rfl, hk⟩)
        go_ret
        have h1 := HD.out
        rw [anyM, HQ.out] at h1
        simp only [if_true] at h1
        subst h1
        exact ⟨i, rfl, by simp, HK.out.trans hk⟩
    · obtain rfl : i = l.length := by omega
      go_wp2_with fail
      go_ret
      have h1 := HMM.out
      rw [List.drop_length, anyM] at h1
      subst h1
      exact ⟨-1, rfl, (by decide : decide ((0 : Int) ≤ -1) = false), HK.out⟩

/-- slices.ContainsFunc over Tym. -/
theorem con38_any (g : Nat) (s : Sl Tym) (cv : Array Value) (cb : Tym → Int → Bool × Int) (w : World) (n0 : Int) (hs : SlAt (okg g w) w 13 160 Tym.cells s ∧ ∀ c ∈ s.l, TymL (okg g w) w c) (hc : w.cell? ⟨g, 0, none⟩ = some (I n0)) (hf : w.frozen? ⟨g, 0, none⟩ = false)
    (hcall : ∀ (w1 : World) (T : Tym) (n : Int), Kp g w w1 n → TymL (okg g w1) w1 T → Calls Tryz.prog 29 (#[.agg T.cells.toArray] ++ cv) w1 fun e w' => e = .returned (.bool (cb T n).1) ∧ Kp g w1 w' (cb T n).2) :
    Calls Tryz.prog 28 #[s.v, .func (.func 29) #[] cv] w fun e w' => e = .returned (.bool (anyM cb s.l n0).1) ∧ Kp g w w' (anyM cb s.l n0).2 := by
  have H := Lib.hid (idx64_any g s cv cb w n0 hs hc hf hcall)
  generalize anyM cb s.l n0 = res at *
  clear hs hcall hc hf
  go_enter Tryz.func28, Tryz.ntmps28
  go_wp2_with (go_at_call 60; refine H.out.mono ?_; rintro e w' ⟨i, rfl, hi, hk⟩; have HI := Lib.hid hi; clear hi)
  all_goals go_ret
  all_goals exact ⟨congrArg (fun b => Ending.returned (Value.bool b)) HI.out, hk⟩
end Go.Proofs.YtfbaikijnjafbaaGreatDoor
