/- FullName of package symbols. Conditions: at most 25 classes, names of at most 100 bytes. -/
import Derived.Test.YtfbaikijnjafbaaGreatDoorSp
import Derived.Test.YtfbaikijnjafbaaGreatDoorBu
import Derived.Test.YtfbaikijnjafbaaGreatDoorSv
import Derived.Maps.OwnIn
namespace Go.Proofs.YtfbaikijnjafbaaGreatDoor
set_option linter.unusedSimpArgs false
set_option linter.unusedVariables false
open Go.RowKit Go.Maps Go.Sort
set_option maxRecDepth 100000

attribute [local go_sem] Oper.semAt_some
def pathL (cl : List Cls) (c : Nat) : List Int := (c : Int) :: outL cl cl.length c
def joinL (cl : List Cls) : Nat → List Int → List UInt8 → List UInt8
  | _, [], acc => acc
  | i, k :: r, acc => match cl[k.toNat]? with
    | none => joinL cl (i + 1) r acc
    | some c => joinL cl (i + 1) r (((if decide (0 < i) = true then acc ++ [46] else acc) ++ c.nm.data.toList) ++ (if (c.kind == 2) = true then [35] else []))
def fullM (cl : List Cls) (c : Int) : ByteArray × Int :=
  if inM c cl.length = true then (if decide (cl.length < (pathL cl c.toNat).length) = true then (⟨#[]⟩, 7) else (bytesOf (joinL cl 0 (pathL cl c.toNat).reverse []), 0)) else (⟨#[]⟩, 25)
theorem outL_len (cl : List Cls) : ∀ n x, (outL cl n x).length ≤ n
  | 0, _ => Nat.le_refl _
  | n + 1, x => by
    rw [outL]
    split
    · exact Nat.zero_le _
    · split
      · have := outL_len cl n; simp; exact this _
      · exact Nat.zero_le _
theorem outL_in (cl : List Cls) : ∀ n x, ∀ y ∈ outL cl n x, inM y cl.length = true
  | 0, _, y, h => by cases h
  | n + 1, x, y, h => by
    rw [outL] at h
    split at h
    · cases h
    · split at h
      · rcases List.mem_cons.1 h with rfl | h
        · assumption
        · exact outL_in cl n _ y h
      · cases h

/-- The list of the path: its box, and its row, which is the first one or lies behind the blocks of the range. -/
structure Pth (N : Nat) (W : World) (l : List Int) : Prop where
  row : ∃ g cap, (g = N + 2 ∨ N + 8 ≤ g) ∧ Boxed W (N + 3) 44 (.slice (some ⟨g, 0, none⟩) l.length cap) ∧ W.ownsRow (N + 2) 3 1 (.slice (some ⟨g, 0, none⟩) l.length cap) l.length (l.map I)

theorem HF9of {N g : Nat} {w W w9 : World} (h : Below N w W) (hg : W.grownBy w9 (some g)) (hN : N ≤ g) (hNW : N ≤ W.heap.size) : Below N w w9 :=
  ⟨hg.os.trans h.os, hg.tape.trans h.tape, hg.output.trans h.output, Nat.le_trans h.size hg.size, fun k hk => (hg.block k (by omega) (by simp; omega)).trans (h.block k hk)⟩
theorem wDot (B b : Nat) (l : List UInt8) (w : World) (h : Bu B b l w) (hl : l.length ≤ 1000000) (hB : B ≤ w.heap.size) :
    Calls Tryz.prog 47 #[.pointer (some ⟨b, 0, none⟩), .int .u8 46] w fun e w' => e = .returned .nilIface ∧ Bu B b (l ++ [46]) w' ∧ Below B w w' := wByte B b l 46 w h hl hB
theorem wHash (B b : Nat) (l : List UInt8) (w : World) (h : Bu B b l w) (hl : l.length ≤ 1000000) (hB : B ≤ w.heap.size) :
    Calls Tryz.prog 47 #[.pointer (some ⟨b, 0, none⟩), .int .u8 35] w fun e w' => e = .returned .nilIface ∧ Bu B b (l ++ [35]) w' ∧ Below B w w' := wByte B b l 35 w h hl hB

theorem wGen (n : Int) (c : UInt8) (B b : Nat) (l : List UInt8) (w : World) (hn : n = (c.toNat : Int)) (h : Bu B b l w) (hl : l.length ≤ 1000000) (hB : B ≤ w.heap.size) :
    Calls Tryz.prog 47 #[.pointer (some ⟨b, 0, none⟩), .int .u8 n] w fun e w' => e = .returned .nilIface ∧ Bu B b (l ++ [c]) w' ∧ Below B w w' := by subst hn; exact wByte B b l c w h hl hB
theorem e46 : (46 : Int) = ((46 : UInt8).toNat : Int) := rfl
theorem e35 : (35 : Int) = ((35 : UInt8).toNat : Int) := rfl

set_option maxHeartbeats 6400000 in
theorem full19_any {ok : Nat → Prop} (P : Prg) (c : Int) (w : World) (hp : PrgL ok w P) (hok : ∀ k, ok k → k < w.heap.size) (h25 : P.cls.l.length ≤ 25) (hnm : ∀ k ∈ P.cls.l, k.nm.size ≤ 100) :
    Calls Tryz.prog 21 #[P.agg, I c] w (Bof w (.tuple #[.string (fullM P.cls.l c).1, I (fullM P.cls.l c).2])) := by
  have hb1 : Below w.heap.size w (w.alloc (.cells (prgCells P) 28)) := (Below.refl _ _).alloc (Nat.le_refl _) _
  have hT := tl_made hp hok hb1
  have hb2 : Below w.heap.size w ((w.alloc (.cells (prgCells P) 28)).alloc (.cells (prgCells P) 78)) := hb1.alloc (by simp) _
  rw [World.size_alloc] at hT
  have hPb : ((w.alloc (.cells (prgCells P) 28)).alloc (.cells (prgCells P) 78)).heap[w.heap.size]? = some (.cells (prgCells P) 28) := by
    rw [Below.heap_alloc _ _ _ (by simp)]
    exact heap_alloc_new w _
  have hz2 : ((w.alloc (.cells (prgCells P) 28)).alloc (.cells (prgCells P) 78)).heap.size = w.heap.size + 2 := by simp
  have HT := Lib.hid hT
  have HPB := Lib.hid hPb
  have HB := Lib.hid hb2
  have HZ := Lib.hid hz2
  clear hT hPb hz2 hb1 hb2 hp hok
  rw [prg_agg]
  unfold Bof
  generalize hres : fullM P.cls.l c = res
  unfold fullM at hres
  have HR := Lib.hid hres
  clear hres
  refine calls_marks Tryz.func21 rfl ?_
  simp only [Tryz.ntmps21, List.size_toArray, List.length_cons, List.length_nil, Nat.reduceAdd, Nat.reduceSub, Array.replicate_succ, Array.replicate_zero, List.push_toArray, List.append_toArray, List.nil_append, List.cons_append]
  go_upto_region 2 with fail
  change Code.wp _ _ _ _ ((w.alloc (.cells (prgCells P) 28)).alloc (.cells (prgCells P) 78))
  generalize ((w.alloc (.cells (prgCells P) 28)).alloc (.cells (prgCells P) 78)) = w2 at *
  have HZ1 : Hid (sizeM P 1 = P.cls.l.length) := Lib.hid rfl
  cases e1 : inM c P.cls.l.length with
  | false =>
    obtain rfl : ((⟨#[]⟩, 25) : ByteArray × Int) = res := by have := HR.out; rw [e1] at this; exact this
    go_wp2_with (first | (go_at_call 41; refine (has_any P _ _ _ _ HT.out).mono ?_; rintro e w2 ⟨rfl, rfl⟩; dsimp only; rw [HZ1.out, e1]))
    exact ⟨_, by simp [results, Tryz.f21, go_sem], rfl, HB.out⟩
  | true =>
    obtain ⟨x0, rfl, hxn, hx0⟩ := inM_at e1
    have HR2 := Lib.hid (show (if decide (P.cls.l.length < (pathL P.cls.l x0).length) = true then ((⟨#[]⟩, 7) : ByteArray × Int) else (bytesOf (joinL P.cls.l 0 (pathL P.cls.l x0).reverse []), 0)) = res by have := HR.out; rw [e1, hxn] at this; exact this)
    clear HR hxn
    go_upto_region 4 with (first | (go_at_call 41; refine (has_any P _ _ _ _ HT.out).mono ?_; rintro e w2 ⟨rfl, rfl⟩; dsimp only; rw [HZ1.out, e1]))
    go_wp2_with (first | (go_at_call 45; refine (outward_any _ _ _).mono ?_; rintro e w2 ⟨rfl, rfl⟩; dsimp only))
    have hz := HZ.out
    generalize hN : w.heap.size = N at *
    simp only [World.size_alloc, hz, Nat.add_assoc, Nat.reduceAdd]
    change Code.wp _ _ _ _ ((((w2.alloc (.cells #[I x0] 3)).alloc (.cells #[.slice (some ⟨N + 2, 0, none⟩) 1 1] 44)).alloc (.cells #[ptr (N + 1)] 76)).alloc (.cells #[I x0] 3))
    have hb6 : Below (N + 2) w2 ((((w2.alloc (.cells #[I x0] 3)).alloc (.cells #[.slice (some ⟨N + 2, 0, none⟩) 1 1] 44)).alloc (.cells #[ptr (N + 1)] 76)).alloc (.cells #[I x0] 3)) := ((((Below.refl _ _).alloc (by omega) _).alloc (by simp; omega) _).alloc (by simp; omega) _).alloc (by simp; omega) _
    have hz6 : ((((w2.alloc (.cells #[I x0] 3)).alloc (.cells #[.slice (some ⟨N + 2, 0, none⟩) 1 1] 44)).alloc (.cells #[ptr (N + 1)] 76)).alloc (.cells #[I x0] 3)).heap.size = N + 6 := by simp [hz]
    have ha1 : ((((w2.alloc (.cells #[I x0] 3)).alloc (.cells #[.slice (some ⟨N + 2, 0, none⟩) 1 1] 44)).alloc (.cells #[ptr (N + 1)] 76)).alloc (.cells #[I x0] 3)).heap[N + 4]? = some (.cells #[ptr (N + 1)] 76) := by
      rw [Below.heap_alloc _ _ _ (by simp [hz])]
      have := heap_alloc_new ((w2.alloc (.cells #[I x0] 3)).alloc (.cells #[.slice (some ⟨N + 2, 0, none⟩) 1 1] 44)) (.cells #[ptr (N + 1)] 76)
      rwa [World.size_alloc, World.size_alloc, hz] at this
    have ha2 : ((((w2.alloc (.cells #[I x0] 3)).alloc (.cells #[.slice (some ⟨N + 2, 0, none⟩) 1 1] 44)).alloc (.cells #[ptr (N + 1)] 76)).alloc (.cells #[I x0] 3)).heap[N + 5]? = some (.cells #[I x0] 3) := by
      have := heap_alloc_new (((w2.alloc (.cells #[I x0] 3)).alloc (.cells #[.slice (some ⟨N + 2, 0, none⟩) 1 1] 44)).alloc (.cells #[ptr (N + 1)] 76)) (.cells #[I x0] 3)
      rwa [World.size_alloc, World.size_alloc, World.size_alloc, hz] at this
    have hr2 : ((((w2.alloc (.cells #[I x0] 3)).alloc (.cells #[.slice (some ⟨N + 2, 0, none⟩) 1 1] 44)).alloc (.cells #[ptr (N + 1)] 76)).alloc (.cells #[I x0] 3)).heap[N + 2]? = some (.cells #[I x0] 3) := by
      rw [Below.heap_alloc _ _ _ (by simp [hz]), Below.heap_alloc _ _ _ (by simp [hz]), Below.heap_alloc _ _ _ (by simp [hz])]
      have := heap_alloc_new w2 (.cells #[I x0] 3)
      rwa [hz] at this
    have hr3 : ((((w2.alloc (.cells #[I x0] 3)).alloc (.cells #[.slice (some ⟨N + 2, 0, none⟩) 1 1] 44)).alloc (.cells #[ptr (N + 1)] 76)).alloc (.cells #[I x0] 3)).heap[N + 3]? = some (.cells #[.slice (some ⟨N + 2, 0, none⟩) 1 1] 44) := by
      rw [Below.heap_alloc _ _ _ (by simp [hz]), Below.heap_alloc _ _ _ (by simp [hz])]
      have := heap_alloc_new (w2.alloc (.cells #[I x0] 3)) (.cells #[.slice (some ⟨N + 2, 0, none⟩) 1 1] 44)
      rwa [World.size_alloc, hz] at this
    have hTL : TL ((((w2.alloc (.cells #[I x0] 3)).alloc (.cells #[.slice (some ⟨N + 2, 0, none⟩) 1 1] 44)).alloc (.cells #[ptr (N + 1)] 76)).alloc (.cells #[I x0] 3)) (N + 1) P := HT.out.move fun k hk => hb6.block k (by omega)
    have hPB : ((((w2.alloc (.cells #[I x0] 3)).alloc (.cells #[.slice (some ⟨N + 2, 0, none⟩) 1 1] 44)).alloc (.cells #[ptr (N + 1)] 76)).alloc (.cells #[I x0] 3)).heap[N]? = some (.cells (prgCells P) 28) := (hb6.block _ (by omega)).trans HPB.out
    have hBw : Below N w ((((w2.alloc (.cells #[I x0] 3)).alloc (.cells #[.slice (some ⟨N + 2, 0, none⟩) 1 1] 44)).alloc (.cells #[ptr (N + 1)] 76)).alloc (.cells #[I x0] 3)) := HB.out.trans (hb6.mono (by omega))
    generalize ((((w2.alloc (.cells #[I x0] 3)).alloc (.cells #[.slice (some ⟨N + 2, 0, none⟩) 1 1] 44)).alloc (.cells #[ptr (N + 1)] 76)).alloc (.cells #[I x0] 3)) = wc at *
    have hpth : Pth N wc [(x0 : Int)] := ⟨⟨N + 2, 1, .inl rfl, hr3, ⟨rfl, .inr ⟨N + 2, 1, #[I x0], rfl, Nat.le_refl _, hr2, Nat.le_refl _, by unfold maxLen; omega, rfl, rfl⟩⟩⟩⟩
    clear hb6 hz hr2 hr3 HT HPB HB HZ
    have HX0 := Lib.hid hx0
    have H25 := Lib.hid h25
    have HNM := Lib.hid hnm
    clear hx0 h25 hnm
    refine range_law_n (n := P.cls.l.length) (gf := 85) (lb := #[ptr (N + 4), ptr (N + 5)]) rfl (enters_of Tryz.func85 (by kernel_rfl) rfl) rfl (N + 5) (by omega) (fun k => k ≤ N + 1 ∨ k = N + 4 ∨ k = N + 5) (fun k hk => by omega) (outL P.cls.l P.cls.l.length x0)
      (fun pre W => Pth N W ((x0 : Int) :: pre) ∧ TL W (N + 1) P ∧ W.heap[N]? = some (.cells (prgCells P) 28) ∧ Below N w W)
      (fun c pre W => False)
      ?hI ?hIx ⟨hpth, hTL, hPB, hBw⟩ ?iter ?a1 ?assign ?body ?done ?stop
    case assign =>
      intro l x W K hK
      gi_wp2
      exact hK
    case hI =>
      intro pre W W' ⟨h1, h2, h3, h4⟩ hb hk
      obtain ⟨g, cap, hg, hbx, hrow⟩ := h1.row
      have hlt := h2.lt
      have hbl := hbx.lt
      have hgl : g < W.heap.size := by
        rcases hrow.2 with ⟨h, _⟩ | ⟨g', cap', cur, h, _, hgb, _⟩
        · cases h
        · cases h; exact lt_of_block hgb
      refine ⟨⟨⟨g, cap, hg, (hk _ hbl (by omega)).trans hbx, own_same hrow fun k hk' _ => ?_⟩⟩, h2.move fun k hk' => hk k (by omega) (by omega), (hk _ (by omega) (by omega)).trans h3, below_lets h4 hb fun k hk' => hk k (by omega) (by omega)⟩
      obtain rfl : g = k := by simpa [Value.ownBlock] using hk'
      exact hk g hgl (by omega)
    case hIx => intro c pre W W' h; exact h.elim
    case iter =>
      intro l J Jx W hW hJ hY h0
      exact outward1w_any l (N + 1) (N + 4) (N + 5) P x0 J Jx (by omega) (by omega) hJ hY W (hTL.below hW) ((hW.block _ (by omega)).trans ha1) ((hW.block _ (by omega)).trans ha2) HX0.out h0
    case body =>
      intro l pre x W hW ⟨h1, h2, h3, h4⟩ hlen
      obtain ⟨g, cap, hg, hbx, hrow⟩ := h1.row
      have hcell := hbx.cell
      have hbxl := hbx.lt
      have h2l := h2.lt
      have HBX := Lib.hid hbx
      have HROW := Lib.hid hrow
      have HG := Lib.hid hg
      have H2 := Lib.hid h2
      have H3 := Lib.hid h3
      have H4 := Lib.hid h4
      have hle : pre.length < 25 := by have := H25.out; omega
      obtain ⟨i0, hi0, hz0, hz1, hz2⟩ := info_parts info3
      clear hbx hrow hg h1 h2 h3 h4 hcell
      have hcell : W.cell? ⟨N + 3, 0, none⟩ = some (.slice (some ⟨g, 0, none⟩) (((x0 : Int) :: pre).length) cap) := HBX.out.cell
      gi_wp2_with (first | (gi_at_builtin; refine wpListIn_append_own_at _ rfl _ _ 44 rfl (N + 2) 3 i0 (.int .i64 0) 1 8 Tryz.underlying44 hi0 hz0 hz1 hz2 rfl (by decide) (.slice (some ⟨g, 0, none⟩) (((x0 : Int) :: pre).length) cap) _ _ rfl (HROW.out.alloc _) ⟨W.heap.size, 0, none⟩ 1 1 [I x] rfl rfl (cell_one_new _ _ _) (by intro u hu; simp at hu; subst hu; rfl) (by unfold maxLen; simp; omega) (by simp; omega) (by simp; omega) ?_; intro v' w3 hown' hgrow _ hloc; obtain ⟨g', cap', rfl⟩ := ownsRow_succ hown'; obtain ⟨hv1, hv2, hr2, _, hb2⟩ := HBX.out.appended (by decide) HROW.out (by omega) (by omega) hown' hgrow; have hc1 := hv1.cell; have hf1 := hv1.frozen; have HV2 := Lib.hid hv2; have HR2' := Lib.hid hr2; have HB2 := Lib.hid hb2; have HL := Lib.hid hloc; have HGR := Lib.hid hgrow; have HBN := Lib.hid hv1; clear hv1 hv2 hr2 hb2 hloc hgrow hown'))
      have hg := HG.out
      have hall : ∀ k, k < W.heap.size → k ≠ N + 3 → k ≠ g → (w3.setCell ⟨N + 3, 0, none⟩ (.slice (some ⟨g', 0, none⟩) (pre.length + 1 + 1) cap')).heap[k]? = W.heap[k]? := fun k hk h1 h2 => by
        rw [Below.heap_setCell _ _ _ _ (by show k ≠ N + 3; exact h1), HGR.out.block k (by simp; omega) (fun e => h2 (by simpa [Value.ownBlock] using e)), Below.heap_alloc _ _ _ hk]
      refine ⟨⟨hall _ (by omega) (by omega) (by omega), hall _ (by omega) (by omega) (by omega)⟩, fun k hk => hall k (by omega) (by omega) (by omega), ⟨⟨g', cap', ?_, ?_, ?_⟩⟩, H2.out.move fun k hk => hall k (by omega) (by omega) (by omega), (hall _ (by omega) (by omega) (by omega)).trans H3.out, H4.out.trans (HB2.out.mono (by omega))⟩
      · rcases HL.out with e | e
        · have : g' = g := by simpa [Value.ownBlock] using e
          omega
        · have : g' = W.heap.size + 1 := by simpa [Value.ownBlock] using e
          omega
      · have : ((x0 : Int) :: (pre ++ [x])).length = pre.length + 1 + 1 := by simp
        rw [this]
        exact HV2.out
      · have : ((x0 : Int) :: (pre ++ [x])).length = ((x0 : Int) :: pre).length + 1 := by simp
        rw [this, ← List.cons_append, List.map_append]
        exact HR2'.out
    case done =>
      intro W ⟨h1, h2, h3, h4⟩ hK
      obtain ⟨g, cap, hg, hbx, hrow⟩ := h1.row
      have hcell := hbx.cell
      have hpc : W.cell? ⟨N, 0, none⟩ = some (.slice P.cls.a P.cls.l.length P.cls.cap) := cell_of_row W N 0 _ _ _ h3
      obtain ⟨cb, co, hca, _, _⟩ := sl_at h2.prg.cls (by have := HX0.out; omega)
      rw [hca] at hpc
      have HLEN : Hid ((pathL P.cls.l x0).length = (((x0 : Int) :: outL P.cls.l P.cls.l.length x0)).length) := Lib.hid rfl
      have HBX := Lib.hid hbx
      have HROW := Lib.hid hrow
      have HG := Lib.hid hg
      have H2 := Lib.hid h2
      have H3 := Lib.hid h3
      have H4 := Lib.hid h4
      rw [hz6] at hK
      have HK := Lib.hid hK
      have HPT : Hid (pathL P.cls.l x0 = (x0 : Int) :: outL P.cls.l P.cls.l.length x0) := Lib.hid rfl
      have HPIN : Hid (∀ y ∈ ((x0 : Int) :: outL P.cls.l P.cls.l.length x0), inM y P.cls.l.length = true) := Lib.hid fun y hy => by
        rcases List.mem_cons.1 hy with rfl | hy
        · have := HX0.out; unfold inM; simp; omega
        · exact outL_in _ _ _ _ hy
      have hplen : ((x0 : Int) :: outL P.cls.l P.cls.l.length x0).length ≤ 26 := by have := outL_len P.cls.l P.cls.l.length x0; have := H25.out; simp; omega
      have HPLE := Lib.hid hplen
      clear hbx hrow hg h1 h2 h3 h4 hK HLEN hplen
      have HR3 := Lib.hid (show (if decide (P.cls.l.length < ((x0 : Int) :: outL P.cls.l P.cls.l.length x0).length) = true then ((⟨#[]⟩, 7) : ByteArray × Int) else (bytesOf (joinL P.cls.l 0 ((x0 : Int) :: outL P.cls.l P.cls.l.length x0).reverse []), 0)) = res from HR2.out)
      clear HR2 HPT
      generalize ((x0 : Int) :: outL P.cls.l P.cls.l.length x0) = path at *
      cases e2 : decide (P.cls.l.length < path.length) with
      | true =>
        obtain rfl : ((⟨#[]⟩, 7) : ByteArray × Int) = res := by have := HR3.out; rw [e2] at this; exact this
        have e2' : decide ((P.cls.l.length : Int) < (path.length : Int)) = true := by have := of_decide_eq_true e2; exact decide_eq_true (by omega)
        go_wp2_with fail
        refine ⟨by simp, .inl ⟨_, _, rfl, run_takeDeferred HK.out, ?_⟩⟩
        exact ⟨_, by simp [results, Tryz.f21, go_sem], rfl, below_lets H4.out ⟨rfl, rfl, rfl, by simp, fun k hk => absurd hk (Nat.not_lt_zero _)⟩ fun k hk => World.putObj_heap_other (by omega)⟩
      | false =>
        have e2' : decide ((P.cls.l.length : Int) < (path.length : Int)) = false := by have := of_decide_eq_false e2; exact decide_eq_false (by omega)
        have HR4 : Hid ((bytesOf (joinL P.cls.l 0 path.reverse []), (0 : Int)) = res) := by have := HR3.out; rw [e2] at this; exact this
        rcases HROW.out.2 with ⟨h, _⟩ | ⟨g2, cap2, cur, hgc, hge, hgb, hcap, hcm, hcs, hct⟩
        · cases h
        obtain ⟨rfl, rfl⟩ : g = g2 ∧ cap = cap2 := by
          have : (g = g2) ∧ cap = cap2 := by simpa using hgc
          exact this
        have hH : Holds (Value.int .i64) W g 0 path.toArray := holds_of_blockI hgb (by rw [Nat.mul_one] at hct; exact hct)
        have HRE : Hid (Calls Tryz.prog 46 #[.slice (some ⟨g, 0, none⟩) path.length cap] W fun e w' => e = .returned (.tuple #[]) ∧ W.grownBy w' (some g) ∧ w'.ownsRow (N + 2) 3 1 (.slice (some ⟨g, 0, none⟩) path.length cap) path.length (path.reverse.map I)) :=
          Lib.hid ((Tryz.slices_Reverse_int g 0 cap path W hH (by have := HPLE.out; omega)).mono fun e w' hp => by
            obtain ⟨h1, n, rfl⟩ := hp
            have hgr : ∀ X : World, grow X #[] = X := fun X => by simp [grow]
            refine ⟨h1, ?_, ?_⟩
            · have := grownBy_sortedI (w := W) (g := g) (n := n) (os := #[]) path.reverse.toArray
              rwa [hgr] at this
            · have := ownsRow_sortedI (os := #[]) (n := n) (ss := path) (ts := path.reverse) (by simp) hge hgb hcap hcm hcs
              rwa [hgr] at this)
        have HNR := Lib.hid (HBX.out.not_row (by decide) HROW.out)
        clear hgc hgb hct hcs hcap hcm hge hH
        go_upto_region 11 with (first | (go_at_call 46; refine HRE.out.mono ?_; rintro e w9 ⟨rfl, hg9, ho9⟩))
        have hk9 : ∀ k, k < W.heap.size → k ≠ g → w9.heap[k]? = W.heap[k]? := fun k hk hn => hg9.block k hk (by simp; exact hn)
        have hWs : N + 6 < W.heap.size := lt_of_block HK.out
        have hgne := HG.out
        have hbx9 := HBX.out.kept hg9 HNR.out
        have hs9 := hg9.size
        have HF9 : Hid (Below N w w9) := Lib.hid (HF9of H4.out hg9 (by omega) (by omega))
        have HK9 : Hid (w9.heap[N + 6]? = some (.deferred (some []))) := Lib.hid ((hk9 _ (by omega) (by omega)).trans HK.out)
        have HT9 : Hid (TL w9 (N + 1) P) := Lib.hid (H2.out.move fun k hk => hk9 k (by omega) (by omega))
        have HP9 : Hid (w9.heap[N]? = some (.cells (prgCells P) 28)) := Lib.hid ((hk9 _ (by omega) (by omega)).trans H3.out)
        have HO9 := Lib.hid ho9
        have HX9 := Lib.hid hbx9
        clear hk9 hbx9 hg9 ho9 HRE HNR H2 H3 H4 HK HBX HROW hcell hpc
        have hbb : Below w9.heap.size w9 (w9.alloc (.cells #[.pointer none, .slice none 0 0] 99)) := (Below.refl _ _).alloc (Nat.le_refl _) _
        have hbu0 := Bu.fresh w9
        have hbc : (w9.alloc (.cells #[.pointer none, .slice none 0 0] 99)).cell? ⟨N + 3, 0, none⟩ = some (.slice (some ⟨g, 0, none⟩) path.length cap) := (hbb.cell (p := ⟨N + 3, 0, none⟩) (by show N + 3 < _; omega)).trans HX9.out.cell
        generalize hrp : path.reverse = rp at *
        have hrl : rp.length = path.length := by rw [← hrp, List.length_reverse]
        have HRL := Lib.hid hrl
        have HRIN : Hid (∀ y ∈ rp, inM y P.cls.l.length = true) := Lib.hid fun y hy => HPIN.out y (by rw [← hrp] at hy; exact List.mem_reverse.1 hy)
        have HSZ := Lib.hid hs9
        have HBU := Lib.hid hbu0
        have HBB := Lib.hid hbb
        clear hbu0 hbb hrp
        have HBS : Hid (∀ Wb, Below w9.heap.size (w9.alloc (.cells #[.pointer none, .slice none 0 0] 99)) Wb → w9.heap.size ≤ Wb.heap.size) := Lib.hid fun Wb h => by have := h.size; simp at this; omega
        have HWZ : Hid (∀ Wb, Below w9.heap.size (w9.alloc (.cells #[.pointer none, .slice none 0 0] 99)) Wb → Below w9.heap.size w9 Wb) := Lib.hid fun Wb h => HBB.out.trans h
        go_wp2_with fail
        go_loopg [39] (rp.length + 1) (fun n v wr => ∃ i : Nat, ∃ acc : List UInt8, i ≤ rp.length ∧ v = .int .i64 i ∧ Hid (n = rp.length + 1 - i) ∧ Hid (joinL P.cls.l i (rp.drop i) acc = joinL P.cls.l 0 rp []) ∧ Hid (acc.length ≤ 102 * i) ∧ Hid (Bu w9.heap.size w9.heap.size acc wr) ∧ Hid (Below w9.heap.size (w9.alloc (.cells #[.pointer none, .slice none 0 0] 99)) wr))
        case atStart => exact ⟨0, [], by omega, (by first | rfl | go_num), rfl, rfl, Nat.zero_le _, HBU.out, Below.refl _ _⟩
        case round =>
          obtain ⟨i, acc, hi, rfl, HN3, HJ, HAL, HBU, HBL⟩ := hrel
          have hple := HPLE.out
          have hrle := HRL.out
          by_cases hlt : i < rp.length
          · have d2 : ((i : Int) < (rp.length : Int)) := by omega
            have d2p : ((i : Int) < (path.length : Int)) := by omega
            have hcellr : wr.cell? ⟨g, i, none⟩ = some (I rp[i]) := by
              have h1 := HO9.out.cellAt i (by omega)
              have h2 : g < w9.heap.size := by
                rcases HO9.out.2 with ⟨h, _⟩ | ⟨g2, cap2, cur2, hgc, _, hgb, _⟩
                · cases h
                · have : g = g2 ∧ cap = cap2 := by simpa using hgc
                  rw [this.1]; exact lt_of_block hgb
              rw [((HWZ.out _ HBL.out).cell (p := ⟨g, i, none⟩) h2), h1, List.getElem?_map, List.getElem?_eq_getElem hlt]
              rfl
            obtain ⟨y, hy, hyn, hyl⟩ := inM_at (l := P.cls.l) (HRIN.out _ (List.getElem_mem hlt))
            have dy : ((y : Int) < (P.cls.l.length : Int)) := by omega
            have h25 := H25.out
            have HJ2 : Hid (joinL P.cls.l (i + 1) (rp.drop (i + 1)) (((if decide (0 < i) = true then acc ++ [46] else acc) ++ P.cls.l[y].nm.data.toList) ++ (if (P.cls.l[y].kind == 2) = true then [35] else [])) = joinL P.cls.l 0 rp []) := by
              have := HJ.out
              rw [List.drop_eq_getElem_cons hlt, joinL, hyn, List.getElem?_eq_getElem hyl] at this
              exact this
            rw [hy] at hcellr
            obtain ⟨cb', co', hca', hok, hccs⟩ := sl_at HT9.out.prg.cls (by omega)
            rw [hca] at hca'
            obtain ⟨rfl, rfl⟩ : cb = cb' ∧ co = co' := by simpa using hca'
            clear hca'
            have HCF : Hid (∀ Wb, Below w9.heap.size (w9.alloc (.cells #[.pointer none, .slice none 0 0] 99)) Wb → Wb.cell? ⟨N, 0, none⟩ = some (.slice (some ⟨cb, co, none⟩) P.cls.l.length P.cls.cap) ∧ Wb.cell? ⟨cb, co + y * 13, none⟩ = some (.string P.cls.l[y].nm) ∧ Wb.cell? ⟨cb, co + y * 13 + 1, none⟩ = some (I P.cls.l[y].kind)) := Lib.hid fun Wb hWb => by
              have hB := HWZ.out _ hWb
              have hT9 := HT9.out.lt
              obtain ⟨t0, t1, _⟩ := cls_cells0 ((hccs y hyl).same (hB.block cb (by omega)))
              refine ⟨?_, t0, t1⟩
              rw [← hca]
              exact cell_of_row Wb N 0 _ _ _ ((hB.block N (by omega)).trans HP9.out)
            have HNMC : Hid (P.cls.l[y].nm.size ≤ 100) := Lib.hid (HNM.out _ (List.getElem_mem hyl))
            have hnmc := HNMC.out
            have hlnm : P.cls.l[y].nm.data.toList.length = P.cls.l[y].nm.size := by rw [Array.length_toList]; rfl
            have HLNM := Lib.hid hlnm
            have hb := HBL.out
            have hbs := HBS.out _ hb
            have hbu := HBU.out
            have hal := HAL.out
            obtain ⟨p0, n0, n1⟩ := HCF.out _ hb
            clear hy hyn hok hccs HJ hlnm
            generalize P.cls.l[y] = C at *
            have hlnm : C.nm.data.toList.length ≤ 100 := by have := HLNM.out; omega
            cases ek : (C.kind == 2) with
            | true =>
              cases d0n : decide (0 < i) with
              | true =>
                have d0 : decide ((0 : Int) < (i : Int)) = true := by have := of_decide_eq_true d0n; exact decide_eq_true (by omega)
                have HJ3 : Hid (joinL P.cls.l (i + 1) (rp.drop (i + 1)) (((acc ++ [46]) ++ C.nm.data.toList) ++ [35]) = joinL P.cls.l 0 rp []) := Lib.hid (by have := HJ2.out; simpa only [d0n, ek, if_true, if_false, Bool.false_eq_true, reduceIte] using this)
                go_wp2_with (first | (go_at_call 47; refine (wGen _ _ _ _ _ _ (by first | exact e46 | exact e35) hbu (by (try simp only [List.length_append, List.length_cons, List.length_nil]); omega) hbs).mono ?_; rintro e wx ⟨rfl, hbu2, hbb⟩; replace hb := hb.trans hbb; replace hbs := Nat.le_trans hbs hbb.size; replace hbu := hbu2; clear hbb hbu2; obtain ⟨p0, n0, n1⟩ := HCF.out _ hb) | (go_at_call 48; refine (wStr _ _ _ _ _ hbu (by (try simp only [List.length_append, List.length_cons, List.length_nil]); omega) (by omega) hbs).mono ?_; rintro e wx ⟨rfl, hbu2, hbb⟩; replace hb := hb.trans hbb; replace hbs := Nat.le_trans hbs hbb.size; replace hbu := hbu2; clear hbb hbu2; obtain ⟨p0, n0, n1⟩ := HCF.out _ hb))
                go_roundg (rp.length + 1 - (i + 1))
                case measure => have := HN3.out; omega
                case rel => exact ⟨i + 1, _, by omega, by first | go_num | (rw [IntWalk.wrap64_in _ (by omega)]; go_num), rfl, HJ3.out, (by have := HNMC.out; have := HLNM.out; show List.length _ ≤ 102 * (i + 1); simp only [List.length_append, List.length_cons, List.length_nil]; omega), hbu, hb⟩
              | false =>
                have d0 : decide ((0 : Int) < (i : Int)) = false := by have := of_decide_eq_false d0n; exact decide_eq_false (by omega)
                have HJ3 : Hid (joinL P.cls.l (i + 1) (rp.drop (i + 1)) ((acc ++ C.nm.data.toList) ++ [35]) = joinL P.cls.l 0 rp []) := Lib.hid (by have := HJ2.out; simpa only [d0n, ek, if_true, if_false, Bool.false_eq_true, reduceIte] using this)
                go_wp2_with (first | (go_at_call 47; refine (wGen _ _ _ _ _ _ (by first | exact e46 | exact e35) hbu (by (try simp only [List.length_append, List.length_cons, List.length_nil]); omega) hbs).mono ?_; rintro e wx ⟨rfl, hbu2, hbb⟩; replace hb := hb.trans hbb; replace hbs := Nat.le_trans hbs hbb.size; replace hbu := hbu2; clear hbb hbu2; obtain ⟨p0, n0, n1⟩ := HCF.out _ hb) | (go_at_call 48; refine (wStr _ _ _ _ _ hbu (by (try simp only [List.length_append, List.length_cons, List.length_nil]); omega) (by omega) hbs).mono ?_; rintro e wx ⟨rfl, hbu2, hbb⟩; replace hb := hb.trans hbb; replace hbs := Nat.le_trans hbs hbb.size; replace hbu := hbu2; clear hbb hbu2; obtain ⟨p0, n0, n1⟩ := HCF.out _ hb))
                go_roundg (rp.length + 1 - (i + 1))
                case measure => have := HN3.out; omega
                case rel => exact ⟨i + 1, _, by omega, by first | go_num | (rw [IntWalk.wrap64_in _ (by omega)]; go_num), rfl, HJ3.out, (by have := HNMC.out; have := HLNM.out; show List.length _ ≤ 102 * (i + 1); simp only [List.length_append, List.length_cons, List.length_nil]; omega), hbu, hb⟩
            | false =>
              cases d0n : decide (0 < i) with
              | true =>
                have d0 : decide ((0 : Int) < (i : Int)) = true := by have := of_decide_eq_true d0n; exact decide_eq_true (by omega)
                have HJ3 : Hid (joinL P.cls.l (i + 1) (rp.drop (i + 1)) (((acc ++ [46]) ++ C.nm.data.toList) ++ []) = joinL P.cls.l 0 rp []) := Lib.hid (by have := HJ2.out; simpa only [d0n, ek, if_true, if_false, Bool.false_eq_true, reduceIte] using this)
                go_wp2_with (first | (go_at_call 47; refine (wGen _ _ _ _ _ _ (by first | exact e46 | exact e35) hbu (by (try simp only [List.length_append, List.length_cons, List.length_nil]); omega) hbs).mono ?_; rintro e wx ⟨rfl, hbu2, hbb⟩; replace hb := hb.trans hbb; replace hbs := Nat.le_trans hbs hbb.size; replace hbu := hbu2; clear hbb hbu2; obtain ⟨p0, n0, n1⟩ := HCF.out _ hb) | (go_at_call 48; refine (wStr _ _ _ _ _ hbu (by (try simp only [List.length_append, List.length_cons, List.length_nil]); omega) (by omega) hbs).mono ?_; rintro e wx ⟨rfl, hbu2, hbb⟩; replace hb := hb.trans hbb; replace hbs := Nat.le_trans hbs hbb.size; replace hbu := hbu2; clear hbb hbu2; obtain ⟨p0, n0, n1⟩ := HCF.out _ hb))
                go_roundg (rp.length + 1 - (i + 1))
                case measure => have := HN3.out; omega
                case rel => exact ⟨i + 1, _, by omega, by first | go_num | (rw [IntWalk.wrap64_in _ (by omega)]; go_num), rfl, HJ3.out, (by have := HNMC.out; have := HLNM.out; show List.length _ ≤ 102 * (i + 1); simp only [List.length_append, List.length_cons, List.length_nil]; omega), Lib.hid (by simpa using hbu), hb⟩
              | false =>
                have d0 : decide ((0 : Int) < (i : Int)) = false := by have := of_decide_eq_false d0n; exact decide_eq_false (by omega)
                have HJ3 : Hid (joinL P.cls.l (i + 1) (rp.drop (i + 1)) ((acc ++ C.nm.data.toList) ++ []) = joinL P.cls.l 0 rp []) := Lib.hid (by have := HJ2.out; simpa only [d0n, ek, if_true, if_false, Bool.false_eq_true, reduceIte] using this)
                go_wp2_with (first | (go_at_call 48; refine (wStr _ _ _ _ _ hbu (by (try simp only [List.length_append, List.length_cons, List.length_nil]); omega) (by omega) hbs).mono ?_; rintro e wx ⟨rfl, hbu2, hbb⟩; replace hb := hb.trans hbb; replace hbs := Nat.le_trans hbs hbb.size; replace hbu := hbu2; clear hbb hbu2; obtain ⟨p0, n0, n1⟩ := HCF.out _ hb))
                go_roundg (rp.length + 1 - (i + 1))
                case measure => have := HN3.out; omega
                case rel => exact ⟨i + 1, _, by omega, by first | go_num | (rw [IntWalk.wrap64_in _ (by omega)]; go_num), rfl, HJ3.out, (by have := HNMC.out; have := HLNM.out; show List.length _ ≤ 102 * (i + 1); simp only [List.length_append, List.length_cons, List.length_nil]; omega), Lib.hid (by simpa using hbu), hb⟩
          · obtain rfl : i = rp.length := by omega
            have HAC : Hid (acc = joinL P.cls.l 0 rp []) := Lib.hid (by have := HJ.out; rw [List.drop_length, joinL] at this; exact this)
            have hbs := HBS.out _ HBL.out
            have HSTR := Lib.hid (bStr w9.heap.size w9.heap.size acc wr HBU.out hbs)
            go_wp2_with (first | (go_at_call 49; refine HSTR.out.mono ?_; rintro e wx ⟨rfl, hbx⟩; have HBX2 := Lib.hid hbx; clear hbx))
            have hBf := (HWZ.out _ HBL.out).trans HBX2.out
            have hs9 := HSZ.out
            have hKf : wx.heap[N + 6]? = some (.deferred (some [])) := (hBf.block _ (by omega)).trans HK9.out
            refine ⟨by simp, .inl ⟨_, _, rfl, run_takeDeferred hKf, ?_⟩⟩
            refine ⟨.tuple #[.string (bytesOf acc), I 0], by simp [results, Tryz.f21, go_sem], ?_, ?_⟩
            · rw [← HR4.out, HAC.out]
            · rw [hN]
              exact below_lets (HF9.out.trans (hBf.mono (by omega))) ⟨rfl, rfl, rfl, by simp, fun k hk => absurd hk (Nat.not_lt_zero _)⟩ fun k hk => World.putObj_heap_other (by omega)
    case stop => intro c pre W _ h; exact h.elim
end Go.Proofs.YtfbaikijnjafbaaGreatDoor
