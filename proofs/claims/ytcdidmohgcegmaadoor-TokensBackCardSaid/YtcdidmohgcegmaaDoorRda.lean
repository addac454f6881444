/- Contracts of the reader's smallest methods: follows, lineFeed, put. Conditions: the reader lies at block g (RdAt), its numbers are small. -/
import Derived.Test.YtcdidmohgcegmaaDoorModel
import Derived.Deep.RegionHeld3
import Derived.StillTailTactics
namespace Go.Proofs.YtcdidmohgcegmaaDoor
open Go.RowKit
attribute [local go_sem ↓ high] builtin_app
section
variable {B g : Nat} {s : ByteArray} {r : Rd} {w : World}
theorem info32 : (Tryd.prog.info? 34).map (fun i => (i.zero, i.size, i.bytes)) = some (some (.agg #[.int .i64 0, .string ByteArray.empty, .int .i64 0, .int .i64 0, .int .i64 0]), 5, 48) := by kernel_rfl


set_option maxHeartbeats 400000 in
theorem follows_any (p : ByteArray) (hR : RdAt w B g s r) (hp : r.pos ≤ s.size) (_hs : s.size ≤ 100000) :
    Calls Tryd.prog 50 #[.pointer (some ⟨g, 0, none⟩), .string p] w fun e w' => e = .returned (.bool (fol s r.pos p)) ∧ ∃ n, w' = w.drewN n := by
  obtain ⟨c0, c1, _⟩ := hR.cells
  clear hR
  unfold fol
  go_enter Tryd.func50, Tryd.ntmps50
  go_wp2_with fail
  go_quiet ((go_at_call 64; exact quiet_left (hp_any _ _ _)))
  go_wp2_with fail
  go_ret
  exact ⟨rfl, _, rfl⟩

set_option maxHeartbeats 400000 in
theorem lineFeed_any (hR : RdAt w B g s r) (hp : r.pos ≤ s.size) (hl : r.line ≤ s.size) (hs : s.size ≤ 100000) :
    Calls Tryd.prog 51 #[.pointer (some ⟨g, 0, none⟩)] w fun e w' => e = .returned (.tuple #[]) ∧ RdAt w' B g s (lfM r) ∧ Keep B g w w' := by
  obtain ⟨c0, c1, c2, c3, c4⟩ := hR.cells
  have f1 := hR.frozen 1
  have f3 := hR.frozen 3
  have f4 := hR.frozen 4
  have HR := Lib.hid hR
  clear hR
  go_enter Tryd.func51, Tryd.ntmps51
  go_wp2_with fail
  go_end0
  exact ⟨rfl, ((HR.out.pos' _).line' _).ls' _, (((Keep.refl B g w).setCell (.inl rfl) _).setCell (.inl rfl) _).setCell (.inl rfl) _⟩

set_option maxRecDepth 100000 in
set_option maxHeartbeats 1000000 in
theorem put_any (kind : Nat) (text : ByteArray) (en : Nat) (hR : RdAt w B g s r) (hp : r.start ≤ 1000000) (hl : r.ls ≤ r.start) (hn : r.list.length ≤ 1000000) :
    Calls Tryd.prog 91 #[.pointer (some ⟨g, 0, none⟩), I kind, .string text, I en] w fun e w' => e = .returned (.tuple #[]) ∧ RdAt w' B g s (putM r kind text en) ∧ Keep B g w w' := by
  obtain ⟨c0, c1, c2, c3, c4⟩ := hR.cells
  obtain ⟨ov, lv, hg, hlt, hle, ho, hl2⟩ := hR
  have c6 : w.cell? ⟨g, 6, none⟩ = some lv := by simp [cell_of_row w g _ _ _ _ hg]
  have f6 : w.frozen? ⟨g, 6, none⟩ = false := by simp [World.frozen?, hg]
  have f1 : w.frozen? ⟨g, 1, none⟩ = false := by simp [World.frozen?, hg]
  have ag := own_ne hl2 hlt
  have e1 : IntKind.i64.wrap ((r.start : Int) - (r.ls : Int)) = ((r.start - r.ls : Nat) : Int) := by
    rw [show (r.start : Int) - r.ls = ((r.start - r.ls : Nat) : Int) by omega]; exact IntWalk.i64_in _ (by omega)
  have HG := Lib.hid hg
  have HO := Lib.hid ho
  have HL := Lib.hid hl2
  clear hg ho hl2
  obtain ⟨i0, hi, hz0, hz1, hz2⟩ := info_parts info32
  have HI := Lib.hid (And.intro hi (And.intro hz0 (And.intro hz1 hz2)))
  clear hi hz0 hz1 hz2
  obtain ⟨gg, cap, w1, hr, hown1, hgrow, hat, hlt1⟩ := run_append_lies (P := Tryd.prog) ((w.alloc (.cells #[I kind, .string text, I r.start, I r.line, I (r.start - r.ls)] 34)).drew) 25 25 B 34 i0 _ 5 48 Tryd.underlying25 HI.out.1 HI.out.2.1 HI.out.2.2.1 HI.out.2.2.2 rfl (by omega) lv r.list.length (r.list.flatMap Tok.cells) ((HL.out.alloc _).drew)
        ⟨w.heap.size, 0, none⟩ 1 1 [I kind, .string text, I r.start, I r.line, I (r.start - r.ls)] (by rfl) (World.news_of_block (cs := #[I kind, .string text, I r.start, I r.line, I (r.start - r.ls)]) (t := 34) (fr := (0, 0)) (heap_alloc_new w _)) (by simp [Value.oneCell'])
        (by omega) (by unfold maxLen; omega) (by omega) (by simp; omega) (w.heap.size + 1) (by simp)
  have q6 : w1.cell? ⟨g, 6, none⟩ = some lv := (hgrow.cell_far _ (by simp; omega) (Ne.symm ag)).trans ((alloc_drew_cell (by show g < _; omega)).trans c6)
  have q1 : w1.cell? ⟨g, 1, none⟩ = some (I r.pos) := (hgrow.cell_far _ (by simp; omega) (Ne.symm ag)).trans ((alloc_drew_cell (by show g < _; omega)).trans c1)
  have q6f : w1.frozen? ⟨g, 6, none⟩ = false := (hgrow.frozen_far _ (by simp; omega) (Ne.symm ag)).trans ((alloc_drew_frozen (by show g < _; omega)).trans f6)
  have q1f : w1.frozen? ⟨g, 1, none⟩ = false := (hgrow.frozen_far _ (by simp; omega) (Ne.symm ag)).trans ((alloc_drew_frozen (by show g < _; omega)).trans f1)
  have HOwn := Lib.hid hown1
  have HGrow := Lib.hid hgrow
  clear hown1 hgrow hat
  have hgl : g < w.heap.size := by omega
  have p6 : (w.alloc (.cells #[I kind, .string text, I r.start, I r.line, I (r.start - r.ls)] 34)).drew.cell? ⟨g, 6, none⟩ = some lv := (alloc_drew_cell hgl).trans c6
  have hra : (App #[25, 25] 25 #[lv, .slice (some ⟨w.heap.size, 0, none⟩) 1 1]).run Tryd.prog ((w.alloc (.cells #[I kind, .string text, I r.start, I r.line, I (r.start - r.ls)] 34)).drew) = .ok (.slice (some ⟨gg, 0, none⟩) (r.list.length + 1) cap) w1 := hr
  clear hr
  go_enter Tryd.func91, Tryd.ntmps91
  go_wp2_with fail
  go_region
  go_wp2
  go_end0
  have hh : w1.heap[g]? = some (.cells #[.string s, I r.pos, I r.start, I r.line, I r.ls, ov, lv] 48 (0, 0)) :=
    (HGrow.out.block g (by simp; omega) (Ne.symm ag)).trans ((Below.heap_alloc _ _ _ (by omega)).trans HG.out)
  have hsz : w.heap.size + 1 ≤ w1.heap.size := by have := HGrow.out.size; simpa using this
  unfold putM
  refine ⟨rfl, ⟨ov, .slice (some ⟨gg, 0, none⟩) (r.list.length + 1) cap, ?_, hlt, ?_, ?_, ?_⟩, ?_⟩
  · simp [World.setCell, Array.getElem?_modify, hh]
  · simp [World.setCell]; omega
  · exact ownsRow_setCell_below (ownsRow_setCell_below (own_other ((HO.out.alloc _).drew) ((HL.out.alloc _).drew) (by decide) HGrow.out) hlt _) hlt _
  · simpa [Tok.cells] using ownsRow_setCell_below (ownsRow_setCell_below HOwn.out hlt _) hlt _
  · exact Keep.setCell (Keep.setCell (Keep.grown (((Keep.refl B g w).alloc hle _).drew) HGrow.out (by simp; omega) fun k hk => own_ge HL.out hk) (.inl rfl) _) (.inl rfl) _
end
end Go.Proofs.YtcdidmohgcegmaaDoor
