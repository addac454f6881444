/- Contracts of putNamed, stray, unclosed, putMark, single, splice. -/
import Derived.Test.YtcdidmohgcegmaaDoorRda
namespace Go.Proofs.YtcdidmohgcegmaaDoor
open Go.RowKit
set_option maxRecDepth 100000
attribute [local go_sem ↓ high] builtin_app
section
variable {B g : Nat} {s : ByteArray} {r : Rd} {w : World}

/-- How a method that reads a token ends: with the reader as the model has it, or with the model's fault. -/
def Out (w : World) (B g : Nat) (s : ByteArray) (o : Except Flt Rd) (e : Ending) (w' : World) : Prop :=
  match o with
  | .ok r' => e = .returned (.tuple #[]) ∧ RdAt w' B g s r' ∧ Keep B g w w'
  | .error f => e = .panicked [{ v := .iface 28 (fltV f), recovered := false }] ∧ Keep B g w w'

set_option maxHeartbeats 400000 in
theorem stray_any (hR : RdAt w B g s r) :
    Calls Tryd.prog 72 #[.pointer (some ⟨g, 0, none⟩)] w fun e w' => e = .panicked [{ v := .iface 28 (fltV ⟨r.start, 27⟩), recovered := false }] ∧ w = w' := by
  obtain ⟨_, _, c2, _⟩ := hR.cells
  clear hR
  go_enter Tryd.func72, Tryd.ntmps72
  go_wp2_with (go_at_call 49; refine (fail_any _ _ _).mono ?_; rintro e w' ⟨rfl, rfl⟩)
  exact ⟨rfl, rfl, rfl⟩

set_option maxHeartbeats 400000 in
theorem putNamed_any (kind en : Nat) (hR : RdAt w B g s r) (h1 : r.start ≤ en) (h2 : en ≤ s.size) (hs : s.size ≤ 100000) (hl : r.ls ≤ r.start) (hn : r.list.length ≤ 1000000) :
    Calls Tryd.prog 88 #[.pointer (some ⟨g, 0, none⟩), I kind, I en] w (Out w B g s (putNamedM s r kind en)) := by
  obtain ⟨c0, _, c2, _⟩ := hR.cells
  have hsz : (s.extract r.start en).size = en - r.start := by simp [ByteArray.size_extract]; omega
  by_cases hbig : 64 < en - r.start
  · have hm : putNamedM s r kind en = .error ⟨r.start, 18⟩ := by unfold putNamedM; rw [hsz, if_pos hbig]
    rw [hm]
    clear hR hm
    go_enter Tryd.func88, Tryd.ntmps88
    go_wp2_with fail
    go_quiet (fail)
    go_wp2_with (go_at_call 49; refine (fail_any _ _ _).mono ?_; rintro e w' ⟨rfl, rfl⟩)
    exact ⟨rfl, rfl, (Keep.refl _ _ _).drewN _⟩
  · have hm : putNamedM s r kind en = .ok (putM r kind (s.extract r.start en) en) := by unfold putNamedM; rw [hsz, if_neg hbig]
    rw [hm]
    have HR := Lib.hid hR
    clear hR hm
    go_enter Tryd.func88, Tryd.ntmps88
    go_wp2_with fail
    go_quiet (fail)
    go_wp2_with fail
    refine (put_any _ _ _ (HR.out.drewN _) (by omega) hl hn).mono ?_
    rintro e w' ⟨rfl, h3, h4⟩
    go_wp2_with fail
    go_end0
    exact ⟨rfl, h3, ((Keep.refl _ _ _).drewN _).trans h4⟩

theorem opCells_len (l : List (ByteArray × Nat)) : (l.flatMap opCells).length = 2 * l.length := by
  induction l with
  | nil => rfl
  | cons a t ih => simp [List.flatMap_cons, opCells, ih]; omega
theorem lastOp_split (r : Rd) (h : 0 < r.opn.length) : r.opn = r.opn.dropLast ++ [lastOp r] := by
  unfold lastOp
  rcases List.eq_nil_or_concat r.opn with h0 | ⟨l, a, h0⟩
  · simp [h0] at h
  · simp [h0]
theorem lastOp_cells (r : Rd) (h : 0 < r.opn.length) : (r.opn.flatMap opCells)[(r.opn.length - 1) * 2]? = some (.string (lastOp r).1) ∧ (r.opn.flatMap opCells)[(r.opn.length - 1) * 2 + 1]? = some (I (lastOp r).2) := by
  have hs := lastOp_split r h
  generalize lastOp r = x at hs ⊢
  generalize hd : r.opn.dropLast = d at hs
  rw [hs]
  have hl : (d.flatMap opCells).length = 2 * d.length := opCells_len d
  have e : (d ++ [x]).length - 1 = d.length := by simp
  rw [e, List.flatMap_append]
  constructor
  · rw [List.getElem?_append_right (by omega), hl]; simp [opCells, show d.length * 2 - 2 * d.length = 0 by omega]
  · rw [List.getElem?_append_right (by omega), hl]; simp [opCells, show d.length * 2 + 1 - 2 * d.length = 1 by omega]
theorem addr_add (k j : Nat) : (⟨k, 0, none⟩ : Addr).add j = ⟨k, j, none⟩ := by unfold Addr.add; split <;> simp_all

set_option maxHeartbeats 400000 in
theorem unclosed_any (hR : RdAt w B g s r) (hn : r.opn.length ≤ 64) (hp : 0 < r.opn.length) :
    Calls Tryd.prog 43 #[.pointer (some ⟨g, 0, none⟩)] w fun e w' => e = .panicked [{ v := .iface 28 (fltV ⟨(lastOp r).2, 27⟩), recovered := false }] ∧ Keep B g w w' := by
  obtain ⟨ov, lv, hg, hlt, hle, ho, hl2⟩ := hR
  have c5 : w.cell? ⟨g, 5, none⟩ = some ov := by simp [cell_of_row w g _ _ _ _ hg]
  obtain ⟨k, cap, rfl, hk1, hk2⟩ := ho.form hp
  have hc := ho.cells (g := k) rfl _ _ (lastOp_cells r hp).2
  rw [addr_add] at hc
  have e1 : IntKind.i64.wrap ((r.opn.length : Int) - 1) = ((r.opn.length - 1 : Nat) : Int) := by
    rw [show (r.opn.length : Int) - 1 = ((r.opn.length - 1 : Nat) : Int) by omega]; exact IntWalk.i64_in _ (by omega)
  have e2 : (0 : Int) ≤ ((r.opn.length - 1 : Nat) : Int) := by omega
  have e3 : ((r.opn.length - 1 : Nat) : Int) < (r.opn.length : Int) := by omega
  have e4 : ((r.opn.length - 1 : Nat) : Int).toNat = r.opn.length - 1 := by omega
  clear hg ho hl2 hp
  go_enter Tryd.func43, Tryd.ntmps43
  go_wp2_with fail
  go_still_tail 13, (by kernel_rfl)
  change wpList _ _ _ _ _ w.drew
  go_wp2_with (go_at_call 49; refine (fail_any _ _ _).mono ?_; rintro e w' ⟨rfl, rfl⟩)
  exact ⟨rfl, rfl, (Keep.refl _ _ _).drew⟩

set_option maxHeartbeats 1000000 in
theorem putMark_plain (mark : ByteArray) (hR : RdAt w B g s r) (hp : r.start + mark.size ≤ 200000) (hl : r.ls ≤ r.start) (hn : r.list.length ≤ 1000000)
    (h1 : (closerM mark).toList.isEmpty = true) (h2 : closesM mark = false) :
    Calls Tryd.prog 87 #[.pointer (some ⟨g, 0, none⟩), .string mark] w (Out w B g s (.ok (putM r 3 mark (r.start + mark.size)))) := by
  obtain ⟨_, _, c2, _⟩ := hR.cells
  have h3 : (!(closerM mark).toList.isEmpty) = false := by simp [h1]
  have HR := Lib.hid hR
  clear hR
  go_enter Tryd.func87, Tryd.ntmps87
  go_wp2_with (first | (go_at_call 80; refine (closer_any _ _).mono ?_; rintro e w' ⟨rfl, rfl⟩) | (go_at_call 81; refine (closes_any _ _).mono ?_; rintro e w' ⟨rfl, rfl⟩))
  refine (put_any _ _ _ HR.out (by omega) hl hn).mono ?_
  rintro e w' ⟨rfl, h3, h4⟩
  go_wp2_with fail
  go_end0
  exact ⟨rfl, h3, h4⟩

theorem info69 : (Tryd.prog.info? 79).map (fun i => (i.zero, i.size, i.bytes)) = some (some (.agg #[.string ByteArray.empty, .int .i64 0]), 2, 24) := by kernel_rfl

set_option maxRecDepth 100000 in
set_option maxHeartbeats 1000000 in
theorem putMark_open (mark : ByteArray) (hR : RdAt w B g s r) (hp : r.start + mark.size ≤ 200000) (hl : r.ls ≤ r.start) (hn : r.list.length ≤ 1000000)
    (h1 : (closerM mark).toList.isEmpty = false) (h2 : closesM mark = false) (ho64 : r.opn.length < 64) :
    Calls Tryd.prog 87 #[.pointer (some ⟨g, 0, none⟩), .string mark] w (Out w B g s (.ok (putM { r with opn := r.opn ++ [(mark, r.start)] } 3 mark (r.start + mark.size)))) := by
  obtain ⟨_, _, c2, _⟩ := hR.cells
  have f5 := hR.frozen 5
  obtain ⟨ov, lv, hg, hlt, hle, ho, hl2⟩ := hR
  have c5 : w.cell? ⟨g, 5, none⟩ = some ov := by simp [cell_of_row w g _ _ _ _ hg]
  have h3 : (!(closerM mark).toList.isEmpty) = true := by simp [h1]
  have h64 : ((r.opn.length : Int) == 64) = false := by simp; omega
  obtain ⟨A, cap0, hov⟩ : ∃ A cap, ov = .slice A r.opn.length cap := by
    rcases ho.2 with ⟨rfl, h⟩ | ⟨k, cap, cur, rfl, _⟩
    · exact ⟨_, _, by rw [h]⟩
    · exact ⟨_, cap, rfl⟩
  subst hov
  have ag := own_ne ho hlt
  have HG := Lib.hid hg
  have HO := Lib.hid ho
  have HL := Lib.hid hl2
  clear hg ho hl2
  obtain ⟨i0, hi, hz0, hz1, hz2⟩ := info_parts info69
  have HI := Lib.hid (And.intro hi (And.intro hz0 (And.intro hz1 hz2)))
  clear hi hz0 hz1 hz2
  obtain ⟨gg, cap, w1, hr, hown1, hgrow, hat, hlt1⟩ := run_append_lies (P := Tryd.prog) ((w.alloc (.cells #[.string mark, I r.start] 79)).drew) 46 46 B 79 i0 _ 2 24 Tryd.underlying46 HI.out.1 HI.out.2.1 HI.out.2.2.1 HI.out.2.2.2 rfl (by omega) (.slice A r.opn.length cap0) r.opn.length (r.opn.flatMap opCells) ((HO.out.alloc _).drew)
        ⟨w.heap.size, 0, none⟩ 1 1 [.string mark, I r.start] (by rfl) (World.news_of_block (cs := #[.string mark, I r.start]) (t := 79) (fr := (0, 0)) (heap_alloc_new w _)) (by simp [Value.oneCell'])
        (by omega) (by unfold maxLen; omega) (by omega) (by simp; omega) (w.heap.size + 1) (by simp)
  have q5 : w1.cell? ⟨g, 5, none⟩ = some (.slice A r.opn.length cap0) := (hgrow.cell_far _ (by simp; omega) (Ne.symm ag)).trans ((alloc_drew_cell (by show g < _; omega)).trans c5)
  have q2 : w1.cell? ⟨g, 2, none⟩ = some (I r.start) := (hgrow.cell_far _ (by simp; omega) (Ne.symm ag)).trans ((alloc_drew_cell (by show g < _; omega)).trans c2)
  have q5f : w1.frozen? ⟨g, 5, none⟩ = false := (hgrow.frozen_far _ (by simp; omega) (Ne.symm ag)).trans ((alloc_drew_frozen (by show g < _; omega)).trans f5)
  have HOwn := Lib.hid hown1
  have HGrow := Lib.hid hgrow
  clear hown1 hgrow hat
  have hgl : g < w.heap.size := by omega
  have p5 : (w.alloc (.cells #[.string mark, I r.start] 79)).drew.cell? ⟨g, 5, none⟩ = some (.slice A r.opn.length cap0) := (alloc_drew_cell hgl).trans c5
  have hra : (App #[46, 46] 46 #[.slice A r.opn.length cap0, .slice (some ⟨w.heap.size, 0, none⟩) 1 1]).run Tryd.prog ((w.alloc (.cells #[.string mark, I r.start] 79)).drew) = .ok (.slice (some ⟨gg, 0, none⟩) (r.opn.length + 1) cap) w1 := hr
  clear hr
  go_enter Tryd.func87, Tryd.ntmps87
  go_wp2_with (first | (go_at_call 80; refine (closer_any _ _).mono ?_; rintro e w' ⟨rfl, rfl⟩) | (go_at_call 81; refine (closes_any _ _).mono ?_; rintro e w' ⟨rfl, rfl⟩))
  go_region
  go_wp2_with (first | (go_at_call 80; refine (closer_any _ _).mono ?_; rintro e w' ⟨rfl, rfl⟩) | (go_at_call 81; refine (closes_any _ _).mono ?_; rintro e w' ⟨rfl, rfl⟩))
  have hh : w1.heap[g]? = some (.cells #[.string s, I r.pos, I r.start, I r.line, I r.ls, .slice A r.opn.length cap0, lv] 48 (0, 0)) :=
    (HGrow.out.block g (by simp; omega) (Ne.symm ag)).trans ((Below.heap_alloc _ _ _ (by omega)).trans HG.out)
  have hsz : w.heap.size + 1 ≤ w1.heap.size := by have := HGrow.out.size; simpa using this
  have hR1 : RdAt (w1.setCell ⟨g, 5, none⟩ (.slice (some ⟨gg, 0, none⟩) (r.opn.length + 1) cap)) B g s { r with opn := r.opn ++ [(mark, r.start)] } := by
    refine ⟨.slice (some ⟨gg, 0, none⟩) (r.opn.length + 1) cap, lv, ?_, hlt, ?_, ?_, ?_⟩
    · simp [World.setCell, Array.getElem?_modify, hh]
    · simp [World.setCell]; omega
    · simpa [opCells] using ownsRow_setCell_below HOwn.out hlt _
    · exact ownsRow_setCell_below (own_other ((HL.out.alloc _).drew) ((HO.out.alloc _).drew) (by decide) HGrow.out) hlt _
  have hK1 : Keep B g w (w1.setCell ⟨g, 5, none⟩ (.slice (some ⟨gg, 0, none⟩) (r.opn.length + 1) cap)) :=
    Keep.setCell (Keep.grown (((Keep.refl B g w).alloc hle _).drew) HGrow.out (by simp; omega) fun k hk => own_ge HO.out hk) (.inl rfl) _
  refine (put_any _ _ _ hR1 (by show r.start ≤ _; omega) hl hn).mono ?_
  rintro e w' ⟨rfl, h3, h4⟩
  go_wp2_with fail
  go_end0
  exact ⟨rfl, h3, hK1.trans h4⟩

theorem own_take {w : World} {B e sz n m k cap : Nat} {xs : List Value} (h : w.ownsRow B e sz (.slice (some ⟨k, 0, none⟩) n cap) n xs) (hm : m ≤ n) : w.ownsRow B e sz (.slice (some ⟨k, 0, none⟩) m cap) m (xs.take (m * sz)) := by
  have hms : m * sz ≤ n * sz := Nat.mul_le_mul_right _ hm
  refine ⟨by rw [List.length_take, h.1]; omega, .inr ?_⟩
  rcases h.2 with ⟨h0, _⟩ | ⟨k', cap', cur, hv, hb, hk, hn, hc, hs, ht⟩
  · cases h0
  · injection hv with e1 _ e3
    injection e1 with e1
    injection e1 with e1
    subst e1; subst e3
    exact ⟨k, cap, cur, rfl, hb, hk, by omega, hc, hs, by rw [← ht, List.take_take, Nat.min_eq_left hms]⟩

set_option maxHeartbeats 1000000 in
theorem putMark_none (mark : ByteArray) (hR : RdAt w B g s r) (h1 : (closerM mark).toList.isEmpty = true) (h2 : closesM mark = true) (h0 : r.opn.length = 0) :
    Calls Tryd.prog 87 #[.pointer (some ⟨g, 0, none⟩), .string mark] w (Out w B g s (.error ⟨r.start, 27⟩)) := by
  obtain ⟨_, _, c2, _⟩ := hR.cells
  obtain ⟨ov, lv, hg, hlt, hle, ho, hl2⟩ := hR
  have c5 : w.cell? ⟨g, 5, none⟩ = some ov := by simp [cell_of_row w g _ _ _ _ hg]
  have h3 : (!(closerM mark).toList.isEmpty) = false := by simp [h1]
  obtain ⟨A, cap, rfl⟩ : ∃ A cap, ov = .slice A 0 cap := by
    rcases ho.2 with ⟨rfl, _⟩ | ⟨k, cap, cur, rfl, _⟩
    · exact ⟨_, _, rfl⟩
    · exact ⟨_, cap, by rw [h0]⟩
  clear hg ho hl2
  go_enter Tryd.func87, Tryd.ntmps87
  go_wp2_with (first | (go_at_call 80; refine (closer_any _ _).mono ?_; rintro e w' ⟨rfl, rfl⟩) | (go_at_call 81; refine (closes_any _ _).mono ?_; rintro e w' ⟨rfl, rfl⟩) | (go_at_call 49; refine (fail_any _ _ _).mono ?_; rintro e w' ⟨rfl, rfl⟩))
  exact ⟨rfl, rfl, Keep.refl _ _ _⟩

set_option maxHeartbeats 1000000 in
theorem putMark_bad (mark : ByteArray) (hR : RdAt w B g s r) (h1 : (closerM mark).toList.isEmpty = true) (h2 : closesM mark = true) (hn : r.opn.length ≤ 64) (h0 : 0 < r.opn.length)
    (hbad : ((closerM (lastOp r).1).toList == mark.toList) = false) :
    Calls Tryd.prog 87 #[.pointer (some ⟨g, 0, none⟩), .string mark] w (Out w B g s (.error ⟨r.start, 27⟩)) := by
  obtain ⟨_, _, c2, _⟩ := hR.cells
  obtain ⟨ov, lv, hg, hlt, hle, ho, hl2⟩ := hR
  have c5 : w.cell? ⟨g, 5, none⟩ = some ov := by simp [cell_of_row w g _ _ _ _ hg]
  have h3 : (!(closerM mark).toList.isEmpty) = false := by simp [h1]
  have hb : (!((closerM (lastOp r).1).toList == mark.toList)) = true := by simp [hbad]
  obtain ⟨k, cap, rfl, hk1, hk2⟩ := ho.form h0
  have hc := ho.cells (g := k) rfl _ _ (lastOp_cells r h0).1
  rw [addr_add] at hc
  have e1 : IntKind.i64.wrap ((r.opn.length : Int) - 1) = ((r.opn.length - 1 : Nat) : Int) := by
    rw [show (r.opn.length : Int) - 1 = ((r.opn.length - 1 : Nat) : Int) by omega]; exact IntWalk.i64_in _ (by omega)
  have e2 : (0 : Int) ≤ ((r.opn.length - 1 : Nat) : Int) := by omega
  have e3 : ((r.opn.length - 1 : Nat) : Int) < (r.opn.length : Int) := by omega
  have e4 : ((r.opn.length - 1 : Nat) : Int).toNat = r.opn.length - 1 := by omega
  have h64 : (0 : Int) < r.opn.length := by omega
  clear hg ho hl2 hbad h0
  go_enter Tryd.func87, Tryd.ntmps87
  go_wp2_with (first | (go_at_call 80; refine (closer_any _ _).mono ?_; rintro e w' ⟨rfl, rfl⟩) | (go_at_call 81; refine (closes_any _ _).mono ?_; rintro e w' ⟨rfl, rfl⟩) | (go_at_call 49; refine (fail_any _ _ _).mono ?_; rintro e w' ⟨rfl, rfl⟩))
  exact ⟨rfl, rfl, Keep.refl _ _ _⟩

set_option maxHeartbeats 1000000 in
theorem putMark_close (mark : ByteArray) (hR : RdAt w B g s r) (hp : r.start + mark.size ≤ 200000) (hl : r.ls ≤ r.start) (hn1 : r.list.length ≤ 1000000) (h1 : (closerM mark).toList.isEmpty = true) (h2 : closesM mark = true) (hn : r.opn.length ≤ 64) (h0 : 0 < r.opn.length)
    (hgood : ((closerM (lastOp r).1).toList == mark.toList) = true) :
    Calls Tryd.prog 87 #[.pointer (some ⟨g, 0, none⟩), .string mark] w (Out w B g s (.ok (putM { r with opn := r.opn.dropLast } 3 mark (r.start + mark.size)))) := by
  obtain ⟨_, _, c2, _⟩ := hR.cells
  have f5 := hR.frozen 5
  obtain ⟨ov, lv, hg, hlt, hle, ho, hl2⟩ := hR
  have c5 : w.cell? ⟨g, 5, none⟩ = some ov := by simp [cell_of_row w g _ _ _ _ hg]
  have h3 : (!(closerM mark).toList.isEmpty) = false := by simp [h1]
  have hb : (!((closerM (lastOp r).1).toList == mark.toList)) = false := by simp [hgood]
  obtain ⟨k, cap, rfl, hk1, hk2⟩ := ho.form h0
  have hcap : r.opn.length ≤ cap := by
    rcases ho.2 with ⟨h, _⟩ | ⟨_, _, _, hv, _, _, hn, _⟩
    · cases h
    · injection hv with _ _ e3
      omega
  have hc := ho.cells (g := k) rfl _ _ (lastOp_cells r h0).1
  rw [addr_add] at hc
  have e1 : IntKind.i64.wrap ((r.opn.length : Int) - 1) = ((r.opn.length - 1 : Nat) : Int) := by
    rw [show (r.opn.length : Int) - 1 = ((r.opn.length - 1 : Nat) : Int) by omega]; exact IntWalk.i64_in _ (by omega)
  have e2 : (0 : Int) ≤ ((r.opn.length - 1 : Nat) : Int) := by omega
  have e3 : ((r.opn.length - 1 : Nat) : Int) < (r.opn.length : Int) := by omega
  have e4 : ((r.opn.length - 1 : Nat) : Int).toNat = r.opn.length - 1 := by omega
  have h64 : (0 : Int) < r.opn.length := by omega
  have hcap1 : r.opn.length ≤ cap + 1 := by omega
  have HG := Lib.hid hg
  have HO := Lib.hid ho
  have HL := Lib.hid hl2
  have H0 := Lib.hid h0
  clear hg ho hl2 hgood h0
  go_enter Tryd.func87, Tryd.ntmps87
  go_wp2_with (first | (go_at_call 80; refine (closer_any _ _).mono ?_; rintro e w' ⟨rfl, rfl⟩) | (go_at_call 81; refine (closes_any _ _).mono ?_; rintro e w' ⟨rfl, rfl⟩) | (go_at_call 49; refine (fail_any _ _ _).mono ?_; rintro e w' ⟨rfl, rfl⟩))
  have hd : (r.opn.flatMap opCells).take ((r.opn.length - 1) * 2) = r.opn.dropLast.flatMap opCells := by
    have hs := lastOp_split r H0.out
    have hl := opCells_len r.opn.dropLast
    rw [List.length_dropLast] at hl
    conv => lhs; rw [hs, List.flatMap_append]
    rw [List.take_append_of_le_length (by simp [hl]; omega), List.take_of_length_le (by simp [hl]; omega)]
  have hR1 : RdAt (w.setCell ⟨g, 5, none⟩ (.slice (some ⟨k, 0, none⟩) (r.opn.length - 1) cap)) B g s { r with opn := r.opn.dropLast } := by
    refine ⟨.slice (some ⟨k, 0, none⟩) (r.opn.length - 1) cap, lv, ?_, hlt, by simpa [World.setCell] using hle, ?_, ownsRow_setCell_below HL.out hlt _⟩
    · simp [World.setCell, Array.getElem?_modify, HG.out]
    · have := ownsRow_setCell_below (own_take HO.out (m := r.opn.length - 1) (by omega)) hlt (a := ⟨g, 5, none⟩) (.slice (some ⟨k, 0, none⟩) (r.opn.length - 1) cap)
      rw [hd] at this
      simpa using this
  have hK1 : Keep B g w (w.setCell ⟨g, 5, none⟩ (.slice (some ⟨k, 0, none⟩) (r.opn.length - 1) cap)) := Keep.setCell (Keep.refl B g w) (p := ⟨g, 5, none⟩) (.inl rfl) _
  refine (put_any _ _ _ hR1 (by show r.start ≤ _; omega) hl hn1).mono ?_
  rintro e w' ⟨rfl, h3, h4⟩
  go_wp2_with fail
  go_end0
  exact ⟨rfl, h3, hK1.trans h4⟩

set_option maxHeartbeats 1000000 in
theorem putMark_deep (mark : ByteArray) (hR : RdAt w B g s r) (h1 : (closerM mark).toList.isEmpty = false) (h64' : r.opn.length = 64) :
    Calls Tryd.prog 87 #[.pointer (some ⟨g, 0, none⟩), .string mark] w (Out w B g s (.error ⟨r.start, 8⟩)) := by
  obtain ⟨_, _, c2, _⟩ := hR.cells
  obtain ⟨ov, lv, hg, hlt, hle, ho, hl2⟩ := hR
  have c5 : w.cell? ⟨g, 5, none⟩ = some ov := by simp [cell_of_row w g _ _ _ _ hg]
  have h3 : (!(closerM mark).toList.isEmpty) = true := by simp [h1]
  obtain ⟨A, cap0, hov⟩ : ∃ A cap, ov = .slice A 64 cap := by
    rcases ho.2 with ⟨rfl, h⟩ | ⟨k, cap, cur, rfl, _⟩
    · omega
    · exact ⟨_, cap, by rw [h64']⟩
  subst hov
  clear hg ho hl2 h64'
  go_enter Tryd.func87, Tryd.ntmps87
  go_wp2_with (first | (go_at_call 80; refine (closer_any _ _).mono ?_; rintro e w' ⟨rfl, rfl⟩) | (go_at_call 81; refine (closes_any _ _).mono ?_; rintro e w' ⟨rfl, rfl⟩) | (go_at_call 49; refine (fail_any _ _ _).mono ?_; rintro e w' ⟨rfl, rfl⟩))
  exact ⟨rfl, rfl, Keep.refl _ _ _⟩

theorem closes_closer (m : ByteArray) (h : closesM m = true) : (closerM m).toList.isEmpty = true := by
  unfold closesM at h
  unfold closerM
  simp only [Bool.or_eq_true, beq_iff_eq] at h
  rcases h with (h | h) | h <;> rw [h] <;> decide +kernel

theorem putMark_any (mark : ByteArray) (hR : RdAt w B g s r) (hp : r.start + mark.size ≤ 200000) (hl : r.ls ≤ r.start) (hn : r.list.length ≤ 1000000) (ho : r.opn.length ≤ 64) :
    Calls Tryd.prog 87 #[.pointer (some ⟨g, 0, none⟩), .string mark] w (Out w B g s (putMarkM r mark)) := by
  unfold putMarkM
  split
  · rename_i h1
    split
    · rename_i h2
      split
      · rename_i h0; exact putMark_none mark hR h1 h2 h0
      · rename_i h0
        split
        · rename_i hb; exact putMark_close mark hR hp hl hn h1 h2 ho (by omega) hb
        · rename_i hb; exact putMark_bad mark hR h1 h2 ho (by omega) (by simpa using hb)
    · rename_i h2; exact putMark_plain mark hR hp hl hn h1 (by simpa using h2)
  · rename_i h1
    have h1' : (closerM mark).toList.isEmpty = false := by simpa using h1
    split
    · rename_i h0; exact putMark_deep mark hR h1' h0
    · rename_i h0
      refine putMark_open mark hR hp hl hn h1' ?_ (by omega)
      cases hc : closesM mark with
      | false => rfl
      | true => exact absurd (closes_closer mark hc) h1

set_option maxHeartbeats 400000 in
theorem splice_any (hR : RdAt w B g s r) (hp : r.pos ≤ s.size) (hs : s.size ≤ 100000) (hst : r.start ≤ s.size) (hl : r.ls ≤ r.start) (hn : r.list.length ≤ 1000000) (ho : r.opn.length ≤ 64) :
    Calls Tryd.prog 71 #[.pointer (some ⟨g, 0, none⟩)] w (Out w B g s (spliceM s r)) := by
  unfold spliceM
  by_cases hf : fol s r.pos ⟨#[36, 123]⟩ = true
  · rw [if_pos hf]
    generalize hm : putMarkM r ⟨#[36, 123]⟩ = o
    have HM := Lib.hid hm
    clear hm
    have HR := Lib.hid hR
    go_enter Tryd.func71, Tryd.ntmps71
    go_wp2_with fail
    refine (follows_any _ hR hp hs).mono ?_
    rintro e w' ⟨rfl, n, rfl⟩
    clear hR
    rw [hf]
    go_wp2_with fail
    refine (putMark_any _ (HR.out.drewN n) (by have : (⟨#[36, 123]⟩ : ByteArray).size = 2 := rfl; omega) hl hn ho).mono ?_
    rintro e w' h
    rw [HM.out] at h
    cases o with
    | error f =>
      obtain ⟨rfl, h4⟩ := h
      go_wp2_with fail
      exact ⟨rfl, rfl, ((Keep.refl _ _ _).drewN _).trans h4⟩
    | ok r' =>
      obtain ⟨rfl, h3, h4⟩ := h
      go_wp2_with fail
      go_end0
      exact ⟨rfl, h3, ((Keep.refl _ _ _).drewN _).trans h4⟩
  · rw [if_neg hf]
    have hf' : fol s r.pos ⟨#[36, 123]⟩ = false := by simpa using hf
    have HR := Lib.hid hR
    go_enter Tryd.func71, Tryd.ntmps71
    go_wp2_with fail
    refine (follows_any _ hR hp hs).mono ?_
    rintro e w' ⟨rfl, n, rfl⟩
    clear hR
    rw [hf']
    go_wp2_with fail
    refine (stray_any (HR.out.drewN n)).mono ?_
    rintro e w' ⟨rfl, rfl⟩
    go_wp2_with fail
    exact ⟨rfl, rfl, (Keep.refl _ _ _).drewN _⟩

theorem slice_str {P : Program} {t : TypeId} (ht : P.underlying t = some .string) (s : ByteArray) (a b : Nat) (hab : a ≤ b) (hb : b ≤ s.size) (W : World) :
    (Instr.slice t (.string s) (some (.int .i64 (a : Int))) (some (.int .i64 (b : Int))) none).run P W = .ok (.string (s.extract a b)) W := by
  rw [run_slice_string_if W _ _ _ _ _ _ ht, if_pos (by omega), if_pos (by omega), Int.toNat_natCast, Int.toNat_natCast]

set_option maxHeartbeats 400000 in
theorem single_any (hR : RdAt w B g s r) (hs : s.size ≤ 100000) (hst : r.start < s.size) (hl : r.ls ≤ r.start) (hn : r.list.length ≤ 1000000) (ho : r.opn.length ≤ 64) :
    Calls Tryd.prog 68 #[.pointer (some ⟨g, 0, none⟩)] w (Out w B g s (putMarkM r (s.extract r.start (r.start + 1)))) := by
  obtain ⟨c0, _, c2, _⟩ := hR.cells
  have HR := Lib.hid hR
  clear hR
  generalize hm : putMarkM r (s.extract r.start (r.start + 1)) = o
  have HM := Lib.hid hm
  clear hm
  have e1 : IntKind.i64.wrap ((r.start : Int) + 1) = (r.start : Int) + 1 := IntWalk.i64_in _ (by omega)
  have e2 : (0 : Int) ≤ (r.start : Int) + 1 := by omega
  have e3 : ((r.start : Int) + 1).toNat = r.start + 1 := by omega
  have e4 : (r.start : Int) + 1 ≤ (s.size : Int) := by omega
  have hsl : ∀ W : World, (Instr.slice 9 (.string s) (some (.int .i64 (r.start : Int))) (some (.int .i64 ((r.start : Int) + 1))) none).run Tryd.prog W = .ok (.string (s.extract r.start (r.start + 1))) W := fun W =>
    slice_str Tryd.underlying9 s r.start (r.start + 1) (by omega) (by omega) W
  go_enter Tryd.func68, Tryd.ntmps68
  go_wp2_with fail
  go_still_tail 15, (by kernel_rfl)
  clear e1 e2 e3 e4 hsl
  change wpList _ _ _ _ _ w.drew
  go_wp2_with fail
  refine (putMark_any _ HR.out.drew (by have : (s.extract r.start (r.start + 1)).size = 1 := by simp [ByteArray.size_extract]; omega
                                        omega) hl hn ho).mono ?_
  rintro e w' h
  rw [HM.out] at h
  cases o with
  | error f =>
    obtain ⟨rfl, h4⟩ := h
    go_wp2_with fail
    exact ⟨rfl, rfl, ((Keep.refl _ _ _).drew).trans h4⟩
  | ok r' =>
    obtain ⟨rfl, h3, h4⟩ := h
    go_wp2_with fail
    go_end0
    exact ⟨rfl, h3, ((Keep.refl _ _ _).drew).trans h4⟩
end
end Go.Proofs.YtcdidmohgcegmaaDoor
