/- Contracts of IndexByte, of Builder, of spaced, escaped and partForm. Conditions: each names its own. -/
import Derived.Shelf.Strings.Builder1
import Derived.Shelf.Small.Strs
import Derived.Shelf.Strings.Search1
import Derived.Test.YtcdidmohgcegmaaDoorProg
import Derived.Test.YtcdidmohgcegmaaDoorBase
import Derived.Lib.Builder
import Derived.Lib.AppendStr
import Derived.Laws.Externs
import Derived.Test.YtcdidmohgcegmaaDoorBm
import Derived.Test.YtcdidmohgcegmaaDoorLyj
import Derived.Deep.RegionWith
/- What the library proved once of strings.IndexByte and (*strings.Builder).String, at this program. -/
namespace Go.Proofs.YtcdidmohgcegmaaDoor
open Go.Shelf
def lays169_ren : Go.Shelf.Ren := ⟨fun | 169 => 33 | n => n, fun | 70 => 51 | 9 => 9 | 0 => 0 | 72 => 54 | 37 => 52 | 127 => 70 | 3 => 3 | 5 => 5 | n => n, fun | n => n⟩
theorem lays169 : Go.Proofs.Lays.n169 Tryd.prog lays169_ren := {
  mixed := by kernel_rfl
  f169 := Tryd.func33.trans (congrArg some (by kernel_rfl))
  t0 := Tryd.underlying0
  a0 := Tryd.isAgg0
  z0 := Tryd.sizeOf0
  v0 := Tryd.zeroValue0
  t3 := Tryd.underlying3
  a3 := Tryd.isAgg3
  z3 := Tryd.sizeOf3
  v3 := Tryd.zeroValue3
  t9 := Tryd.underlying9
  a9 := Tryd.isAgg9
  z9 := Tryd.sizeOf9
  v9 := Tryd.zeroValue9
  t37 := Tryd.underlying52
  a37 := Tryd.isAgg52
  z37 := Tryd.sizeOf52
  v37 := Tryd.zeroValue52
  t70 := Tryd.underlying51
  a70 := Tryd.isAgg51
  z70 := Tryd.sizeOf51
  v70 := Tryd.zeroValue51
  t72 := Tryd.underlying54
  a72 := Tryd.isAgg54
  z72 := Tryd.sizeOf54
  v72 := Tryd.zeroValue54
  t127 := Tryd.underlying70
  a127 := Tryd.isAgg70
  z127 := Tryd.sizeOf70
  v127 := Tryd.zeroValue70 }
theorem builder_Extra_169 : Builder.Extra Tryd.prog lays169_ren := {
  sizeBuilder := by kernel_rfl
  liesBuilder := by kernel_rfl
  t5 := Tryd.underlying5
  a5 := Tryd.isAgg5
  z5 := Tryd.sizeOf5
  v5 := Tryd.zeroValue5
  infoByte := by kernel_rfl
  cellsByte := by kernel_rfl
  sizeByte := by kernel_rfl
  neB5 := by decide }
open Go.RowKit in
theorem builder_String (B b : Nat) (l : List UInt8) (w : World) (h : Lib.IsBuilder 54 5 B b (Lib.byteCells l) w) (h0 : l ≠ []) :
    Calls Tryd.prog 33 #[.pointer (some ⟨b, 0, none⟩)] w fun e w' => e = .returned (.string ⟨l.toArray⟩) ∧ Below B w w' := Any.Builder_String lays169 builder_Extra_169 B b l w h h0
open Go.RowKit in
theorem builder_String_empty (B b : Nat) (w : World) (h : Lib.IsBuilder 54 5 B b [] w) (hBw : B ≤ w.heap.size) :
    Calls Tryd.prog 33 #[.pointer (some ⟨b, 0, none⟩)] w fun e w' => e = .returned (.string ⟨#[]⟩) ∧ Below B w w' := Any.Builder_String_empty lays169 builder_Extra_169 B b w h hBw
open Go.RowKit in
theorem builder_String_any (B b : Nat) (l : List UInt8) (w : World) (h : Lib.IsBuilder 54 5 B b (Lib.byteCells l) w) (hBw : B ≤ w.heap.size) :
    Calls Tryd.prog 33 #[.pointer (some ⟨b, 0, none⟩)] w fun e w' => e = .returned (.string ⟨l.toArray⟩) ∧ Below B w w' := Any.Builder_String_any lays169 builder_Extra_169 B b l w h hBw
def lays137_ren : Go.Shelf.Ren := ⟨fun | 137 => 23 | 217 => 36 | 266 => 48 | n => n, fun | 9 => 9 | 5 => 5 | 3 => 3 | n => n, fun | n => n⟩
theorem lays137 : Go.Proofs.Lays.n137 Tryd.prog lays137_ren := {
  mixed := by kernel_rfl
  f137 := Tryd.func23.trans (congrArg some (by kernel_rfl))
  f217 := Tryd.func36.trans (congrArg some (by kernel_rfl))
  f266 := Tryd.func48.trans (congrArg some (by kernel_rfl))
  t3 := Tryd.underlying3
  a3 := Tryd.isAgg3
  z3 := Tryd.sizeOf3
  v3 := Tryd.zeroValue3
  t5 := Tryd.underlying5
  a5 := Tryd.isAgg5
  z5 := Tryd.sizeOf5
  v5 := Tryd.zeroValue5
  t9 := Tryd.underlying9
  a9 := Tryd.isAgg9
  z9 := Tryd.sizeOf9
  v9 := Tryd.zeroValue9 }
open Go.RowKit in
theorem strings_IndexByte (s : ByteArray) (c : Int) (w : World) :
    Calls Tryd.prog 23 #[.string s, .int .u8 c] w fun e w' => e = .returned (.int .i64 (Lib.indexByte s.data.toList c.toNat.toUInt8)) ∧ w' = w := Any.strings_IndexByte lays137 s c w
def lays217_ren : Go.Shelf.Ren := ⟨fun | 217 => 36 | 266 => 48 | n => n, fun | 9 => 9 | 5 => 5 | 3 => 3 | n => n, fun | n => n⟩
theorem lays217 : Go.Proofs.Lays.n217 Tryd.prog lays217_ren := {
  mixed := by kernel_rfl
  f217 := Tryd.func36.trans (congrArg some (by kernel_rfl))
  f266 := Tryd.func48.trans (congrArg some (by kernel_rfl))
  t3 := Tryd.underlying3
  a3 := Tryd.isAgg3
  z3 := Tryd.sizeOf3
  v3 := Tryd.zeroValue3
  t5 := Tryd.underlying5
  a5 := Tryd.isAgg5
  z5 := Tryd.sizeOf5
  v5 := Tryd.zeroValue5
  t9 := Tryd.underlying9
  a9 := Tryd.isAgg9
  z9 := Tryd.sizeOf9
  v9 := Tryd.zeroValue9 }
open Go.RowKit Go.Lib in
theorem stringslite_IndexByte (s : ByteArray) (c : Int) (w : World) :
    Calls Tryd.prog 36 #[.string s, .int .u8 c] w fun e w' => e = .returned (.int .i64 (Lib.indexByte s.data.toList c.toNat.toUInt8)) ∧ w' = w := Any.stringslite_IndexByte lays217 s c w
end Go.Proofs.YtcdidmohgcegmaaDoor
/- Contracts of (*strings.Builder).WriteByte and WriteString. Condition: the builder is one of the call's own; its bytes are fewer than 2^47. -/
namespace Go.Proofs.YtcdidmohgcegmaaDoor
open Go.RowKit
set_option maxRecDepth 100000

theorem bld_size : (Tryd.prog.info? 54).map (·.size) = some 2 := by kernel_rfl
theorem bld_lies : liesAt Tryd.prog Tryd.prog.depth 54 (2 / Tryd.prog.cellsOf 54) 0 54 1 = true := by kernel_rfl
theorem info_byte : (Tryd.prog.info? 5).map (fun i => (i.zero, i.size, i.bytes)) = some (some (.int .u8 0), 1, 1) := by kernel_rfl

set_option maxHeartbeats 1000000 in
theorem copyCheck_used (b : Nat) (w : World) (h0 : w.cell? ⟨b, 0, none⟩ = some (.pointer (some ⟨b, 0, none⟩))) :
    Calls Tryd.prog 44 #[.pointer (some ⟨b, 0, none⟩)] w fun e w' => e = .returned (.tuple #[]) ∧ w' = w := by
  obtain ⟨j, hj, _⟩ := Option.map_eq_some_iff.1 bld_size
  go_enter Tryd.func44, Tryd.ntmps44
  go_wp2
  rw [Lib.run_neq_ptr_same w _ Tryd.underlying51 hj]
  go_wp2
  go_end0
  exact ⟨rfl, rfl⟩

set_option maxHeartbeats 1000000 in
theorem copyCheck_fresh (b : Nat) (w : World) (h0 : w.cell? ⟨b, 0, none⟩ = some (.pointer none)) (hsh : w.shape? b = some (54, 2)) (hfz : w.frozen? ⟨b, 0, none⟩ = false) :
    Calls Tryd.prog 44 #[.pointer (some ⟨b, 0, none⟩)] w fun e w' => e = .returned (.tuple #[]) ∧ w' = w.setCell ⟨b, 0, none⟩ (.pointer (some ⟨b, 0, none⟩)) := by
  obtain ⟨j, hj, hjs⟩ := Option.map_eq_some_iff.1 bld_size
  go_enter Tryd.func44, Tryd.ntmps44
  go_wp2
  rw [Lib.run_to_unsafe w ⟨b, 0, none⟩ Tryd.underlying51 Tryd.underlying80 hj (by rw [hjs]; decide) hsh (Nat.zero_lt_succ 1)]
  simp only [Result.andThen]
  rw [Oper.upon_value]
  go_wp2
  rw [run_callFunc_extern Tryd.func55 (by kernel_rfl) (by kernel_rfl) (by kernel_rfl) (e := Extern.AbiNoEscape.same) (by kernel_rfl)]
  rw [Lib.run_noEscape]
  simp only [Result.andThen]
  rw [Oper.upon_value]
  go_wp2
  rw [Lib.run_from_unsafe w ⟨b, 0, none⟩ Tryd.underlying80 Tryd.underlying51 hj hsh bld_lies]
  simp only [Result.andThen]
  rw [Oper.upon_value]
  go_wp2
  go_end0
  exact ⟨rfl, rfl⟩

theorem copyCheck_any (B b : Nat) (bs : List Value) (w : World) (h : Lib.IsBuilder 54 5 B b bs w) :
    Calls Tryd.prog 44 #[.pointer (some ⟨b, 0, none⟩)] w fun e w' => e = .returned (.tuple #[]) ∧ Lib.BuilderAt 54 5 B b (.pointer (some ⟨b, 0, none⟩)) bs w' ∧ Below B w w' := by
  rcases h with h | h
  · refine (copyCheck_fresh b w h.cell0 h.shape h.frozen0).mono ?_
    rintro e w' ⟨rfl, rfl⟩
    exact ⟨rfl, h.used _, (Below.refl B w).setCell (p := ⟨b, 0, none⟩) h.1 _⟩
  · refine (copyCheck_used b w h.cell0).mono ?_
    rintro e w' ⟨rfl, rfl⟩
    exact ⟨rfl, h, Below.refl B _⟩

set_option maxHeartbeats 2000000 in
theorem writeByte_any (B b : Nat) (bs : List Value) (c : Int) (w : World) (h : Lib.IsBuilder 54 5 B b bs w) (hlen : bs.length + 1 ≤ 140737488355328) (hBw : B ≤ w.heap.size) :
    Calls Tryd.prog 30 #[.pointer (some ⟨b, 0, none⟩), .int .u8 c] w fun e w' => e = .returned .nilIface ∧ Lib.IsBuilder 54 5 B b (bs ++ [.int .u8 c]) w' ∧ Below B w w' := by
  obtain ⟨i0, hi, hz0, hz1, hz2⟩ := info_parts info_byte
  go_enter Tryd.func30, Tryd.ntmps30
  go_wp2_with (go_at_call 44; refine (copyCheck_any B b bs _ h).mono ?_)
  rintro e w1 ⟨rfl, h1, hb1⟩
  obtain ⟨hB, v, hbk, hown, hne⟩ := h1
  have c0 : w1.cell? ⟨b, 0, none⟩ = some (.pointer (some ⟨b, 0, none⟩)) := by rw [Lib.cell_of_heap hbk]; rfl
  have c1 : w1.cell? ⟨b, 1, none⟩ = some v := by rw [Lib.cell_of_heap hbk]; rfl
  go_wp2_with (at_builtin; refine wpList_append_own _ rfl _ _ 52 rfl B 5 i0 (.int .u8 0) 1 1 Tryd.underlying52 hi hz0 hz1 hz2 rfl (by decide) _ _ _ rfl (hown.alloc _) ⟨w1.heap.size, 0, none⟩ 1 1 [.int .u8 c] rfl rfl ?c1 ?c2 ?c3 ?c4 ?c5 ?_)
  case c1 =>
    intro j u hj
    match j, hj with
    | 0, hj => simp at hj; subst hj; simp [Addr.add]
  case c2 => intro u hu; simp at hu; subst hu; rfl
  case c3 => unfold maxLen; omega
  case c4 => omega
  case c5 => have := hb1.size; simp; omega
  intro v' w2 hown' hgrow _
  have hlt : b < w1.heap.size := by
    rcases Nat.lt_or_ge b w1.heap.size with h' | h'
    · exact h'
    · simp [Array.getElem?_eq_none h'] at hbk
  have hb2 : w2.heap[b]? = some (.cells #[.pointer (some ⟨b, 0, none⟩), v] 54 (0, 0)) := by
    rw [hgrow.block b (by simp; omega) (fun e => hne e.symm), Below.heap_alloc w1 _ b hlt]
    exact hbk
  have d0 : w2.cell? ⟨b, 0, none⟩ = some (.pointer (some ⟨b, 0, none⟩)) := by rw [Lib.cell_of_heap hb2]; rfl
  have d1 : w2.cell? ⟨b, 1, none⟩ = some v := by rw [Lib.cell_of_heap hb2]; rfl
  have f1 : w2.frozen? ⟨b, 1, none⟩ = false := Lib.frozen_of_heap hb2 1
  obtain ⟨g, cap, rfl⟩ : ∃ g cap, v' = .slice (some ⟨g, 0, none⟩) (bs.length + 1) cap := by
    rcases hown'.2 with ⟨_, h0⟩ | ⟨g, cap, cur, hv, _⟩
    · omega
    · exact ⟨g, cap, hv⟩
  go_wp2
  go_ret
  refine ⟨rfl, .inr ?_, ?_⟩
  · exact Lib.BuilderAt.put (T := 54) (e := 5) hB hb2 (bs' := bs ++ [.int .u8 c]) (by simpa using hown') (by decide)
  · exact ((hb1.alloc (by have := hb1.size; omega) _).grown hgrow (by have := hb1.size; simp; omega) (fun k hk => (hown.lt k hk).1)).setCell (p := ⟨b, 1, none⟩) hB _

set_option maxHeartbeats 2000000 in
theorem writeString_any (B b : Nat) (bs : List Value) (s : ByteArray) (w : World) (h : Lib.IsBuilder 54 5 B b bs w) (hlen : bs.length + s.size ≤ 140737488355328) (hBw : B ≤ w.heap.size) :
    Calls Tryd.prog 31 #[.pointer (some ⟨b, 0, none⟩), .string s] w fun e w' => e = .returned (.tuple #[.int .i64 s.size, .nilIface]) ∧ Lib.IsBuilder 54 5 B b (bs ++ Lib.strCells s) w' ∧ Below B w w' := by
  obtain ⟨i0, hi, hz0, hz1, hz2⟩ := info_parts info_byte
  go_enter Tryd.func31, Tryd.ntmps31
  go_wp2_with (go_at_call 44; refine (copyCheck_any B b bs _ h).mono ?_)
  rintro e w1 ⟨rfl, h1, hb1⟩
  obtain ⟨hB, v, hbk, hown, hne⟩ := h1
  have c0 : w1.cell? ⟨b, 0, none⟩ = some (.pointer (some ⟨b, 0, none⟩)) := by rw [Lib.cell_of_heap hbk]; rfl
  have c1 : w1.cell? ⟨b, 1, none⟩ = some v := by rw [Lib.cell_of_heap hbk]; rfl
  go_wp2_with (at_builtin; refine Lib.wpList_append_own_string _ rfl _ _ 52 9 rfl B 5 i0 Tryd.underlying52 Tryd.underlying9 hi hz0 hz1 hz2 _ _ _ rfl hown s rfl ?c3 ?c4 ?c5 ?_)
  case c3 => unfold maxLen; omega
  case c4 => omega
  case c5 => have := hb1.size; omega
  intro v' w2 hown' hgrow _
  have hlt : b < w1.heap.size := by
    rcases Nat.lt_or_ge b w1.heap.size with h' | h'
    · exact h'
    · simp [Array.getElem?_eq_none h'] at hbk
  have hb2 : w2.heap[b]? = some (.cells #[.pointer (some ⟨b, 0, none⟩), v] 54 (0, 0)) := by
    rw [hgrow.block b hlt (fun e => hne e.symm)]
    exact hbk
  have d0 : w2.cell? ⟨b, 0, none⟩ = some (.pointer (some ⟨b, 0, none⟩)) := by rw [Lib.cell_of_heap hb2]; rfl
  have d1 : w2.cell? ⟨b, 1, none⟩ = some v := by rw [Lib.cell_of_heap hb2]; rfl
  have f1 : w2.frozen? ⟨b, 1, none⟩ = false := Lib.frozen_of_heap hb2 1
  obtain ⟨ao, n', cap, rfl⟩ : ∃ ao n' cap, v' = .slice ao n' cap := by
    rcases hown'.2 with ⟨hv, _⟩ | ⟨g, cap, cur, hv, _⟩
    · exact ⟨_, _, _, hv⟩
    · exact ⟨_, _, _, hv⟩
  go_wp2
  go_ret2
  refine ⟨rfl, .inr ?_, ?_⟩
  · exact Lib.BuilderAt.put (T := 54) (e := 5) hB hb2 (bs' := bs ++ Lib.strCells s) (by simpa [Lib.strCells_length] using hown') (by decide)
  · exact (hb1.grown hgrow (by have := hb1.size; omega) (fun k hk => (hown.lt k hk).1)).setCell (p := ⟨b, 1, none⟩) hB _
end Go.Proofs.YtcdidmohgcegmaaDoor
/- Contracts of hexEscape, spaced. -/
namespace Go.Proofs.YtcdidmohgcegmaaDoor
open Go.RowKit
set_option maxRecDepth 100000

def hexDg : ByteArray := ⟨#[48, 49, 50, 51, 52, 53, 54, 55, 56, 57, 97, 98, 99, 100, 101, 102]⟩
theorem hex_fin : ∀ n : Fin 256, ((⟨#[92, 120]⟩ : ByteArray) ++ hexDg.extract ((UInt8.ofNat n.val).toNat / 16) ((UInt8.ofNat n.val).toNat / 16 + 1) ++ hexDg.extract ((UInt8.ofNat n.val).toNat % 16) ((UInt8.ofNat n.val).toNat % 16 + 1)) = bytesOf (hexF (UInt8.ofNat n.val)) := by decide +kernel
set_option maxHeartbeats 1000000 in
theorem hexEscape_any (b : UInt8) (w : World) : Calls Tryd.prog 56 #[.int .u8 b.toNat] w fun e w' => e = .returned (.string (bytesOf (hexF b))) ∧ ∃ n, w' = w.drewN n := by
  have hb : b.toNat < 256 := b.toNat_lt
  have hb0 : (0 : Int) ≤ (b.toNat : Int) := by omega
  have hb1 : (b.toNat : Int) < 256 := by omega
  go_enter Tryd.func56, Tryd.ntmps56
  go_wp2_with fail
  go_quiet (fail)
  go_wp2_with fail
  go_ret
  refine ⟨?_, nq, rfl⟩
  obtain ⟨n, rfl⟩ := fin_byte b
  exact congrArg (fun s => Ending.returned (.string s)) (hex_fin n)
/-- A blank between two tokens. -/
def spcM (u t : Tok) : Bool := decide (u.kind ≠ 8) && (decide (u.kind ≠ 9) && decide (t.kind ≠ 9))
set_option maxHeartbeats 1000000 in
theorem spaced_any (u t : Tok) (w : World) : Calls Tryd.prog 29 #[tokV u, tokV t] w fun e w' => e = .returned (.bool (spcM u t)) ∧ w' = (w.alloc (tokO u)).alloc (tokO t) := by
  obtain ⟨uk, ut, up, ul, uc⟩ := u
  obtain ⟨tk0, tt, tp, tl0, tc⟩ := t
  unfold tokV tokO
  by_cases h8 : uk = 8
  · subst h8
    go_enter Tryd.func29, Tryd.ntmps29
    go_wp2_with fail
    go_ret
    exact ⟨rfl, rfl⟩
  · have n8 : ((uk : Int) != 8) = true := by simp; omega
    by_cases h9 : uk = 9
    · subst h9
      go_enter Tryd.func29, Tryd.ntmps29
      go_wp2_with fail
      go_ret
      exact ⟨rfl, rfl⟩
    · have n9 : ((uk : Int) != 9) = true := by simp; omega
      by_cases k9 : tk0 = 9
      · subst k9
        have e : spcM ⟨uk, ut, up, ul, uc⟩ ⟨9, tt, tp, tl0, tc⟩ = false := by simp [spcM]
        rw [e]
        clear e h8 h9
        go_enter Tryd.func29, Tryd.ntmps29
        go_wp2_with fail
        go_ret
        exact ⟨rfl, rfl⟩
      · have m9 : ((tk0 : Int) != 9) = true := by simp; omega
        have e : spcM ⟨uk, ut, up, ul, uc⟩ ⟨tk0, tt, tp, tl0, tc⟩ = true := by simp [spcM, h8, h9, k9]
        rw [e]
        clear e h8 h9 k9
        go_enter Tryd.func29, Tryd.ntmps29
        go_wp2_with fail
        go_ret
        exact ⟨rfl, rfl⟩
end Go.Proofs.YtcdidmohgcegmaaDoor
/- Contracts of escaped, partForm. Condition: the text has at most 65536 bytes. -/
namespace Go.Proofs.YtcdidmohgcegmaaDoor
open Go.RowKit
set_option maxRecDepth 100000

/-- The builder at block b, one of the call's own from B on, holds the bytes l. -/
def Bu (B b : Nat) (l : List UInt8) (w : World) : Prop := Lib.IsBuilder 54 5 B b (Lib.byteCells l) w
theorem Bu.lt {B b : Nat} {l : List UInt8} {w : World} (h : Bu B b l w) : b < w.heap.size := by rcases h with h | h <;> exact h.lt
theorem Bu.below {B b : Nat} {l : List UInt8} {w w' : World} (h : Bu B b l w) (hb : Below w.heap.size w w') : Bu B b l w' := by
  have hlt := h.lt
  have key : ∀ p, Lib.BuilderAt 54 5 B b p (Lib.byteCells l) w → Lib.BuilderAt 54 5 B b p (Lib.byteCells l) w' := fun p ⟨hB, v, h1, h2, h3⟩ =>
    ⟨hB, v, (hb.block b hlt).trans h1, own_same h2 fun k _ hk => hb.block k hk, h3⟩
  exact h.imp (key _) (key _)
theorem Bu.fresh (w : World) : Bu w.heap.size w.heap.size [] (w.alloc (.cells #[.pointer none, .slice none 0 0] 54)) :=
  .inl ⟨Nat.le_refl _, .slice none 0 0, heap_alloc_new w _, World.ownsRow_nil _ _ _ _, by simp [Value.ownBlock]⟩
theorem wByte (B b : Nat) (l : List UInt8) (c : UInt8) (w : World) (h : Bu B b l w) (hl : l.length ≤ 1000000) (hB : B ≤ w.heap.size) :
    Calls Tryd.prog 30 #[.pointer (some ⟨b, 0, none⟩), .int .u8 c.toNat] w fun e w' => e = .returned .nilIface ∧ Bu B b (l ++ [c]) w' ∧ Below B w w' :=
  (writeByte_any B b _ c.toNat w h (by rw [Lib.byteCells_length]; omega) hB).mono fun e w' ⟨h1, h2, h3⟩ => ⟨h1, by unfold Bu; rw [Lib.byteCells_append]; exact h2, h3⟩
theorem wStr (B b : Nat) (l : List UInt8) (s : ByteArray) (w : World) (h : Bu B b l w) (hl : l.length ≤ 1000000) (hs : s.size ≤ 1000000) (hB : B ≤ w.heap.size) :
    Calls Tryd.prog 31 #[.pointer (some ⟨b, 0, none⟩), .string s] w fun e w' => e = .returned (.tuple #[.int .i64 s.size, .nilIface]) ∧ Bu B b (l ++ s.data.toList) w' ∧ Below B w w' :=
  (writeString_any B b _ s w h (by rw [Lib.byteCells_length]; omega) hB).mono fun e w' ⟨h1, h2, h3⟩ => ⟨h1, by unfold Bu; rw [Lib.byteCells_append]; exact h2, h3⟩
theorem bStr (B b : Nat) (l : List UInt8) (w : World) (h : Bu B b l w) (hB : B ≤ w.heap.size) :
    Calls Tryd.prog 33 #[.pointer (some ⟨b, 0, none⟩)] w fun e w' => e = .returned (.string (bytesOf l)) ∧ Below B w w' := builder_String_any B b l w h hB

/-- Does a text hold a byte? -/
def hasM (s : ByteArray) (c : UInt8) : Bool := s.data.toList.contains c
def idxM (s : ByteArray) (c : UInt8) : Int := Lib.indexByte s.data.toList c
theorem idx_list (c : UInt8) : ∀ l : List UInt8, (l.contains c = true → 0 ≤ Lib.indexByte l c) ∧ (l.contains c = false → Lib.indexByte l c = -1)
  | [] => by simp [Lib.indexByte]
  | b :: l => by
    have ih := idx_list c l
    have hge := Lib.indexByte_ge l c
    unfold Lib.indexByte
    by_cases hb : b = c
    · subst hb; simp
    · have hb' : (b == c) = false := by simpa using hb
      rw [hb', if_neg (by simp)]
      have hc : (b :: l).contains c = l.contains c := by
        rw [List.contains_cons]
        have : (c == b) = false := by simpa using fun e => hb e.symm
        rw [this]; simp
      rw [hc]
      constructor
      · intro h
        have h1 := ih.1 h
        rw [if_neg (by simp; omega)]
        omega
      · intro h
        rw [ih.2 h]; simp
theorem idx_yes {s : ByteArray} {c : UInt8} (h : hasM s c = true) : 0 ≤ idxM s c := (idx_list c _).1 h
theorem idx_no {s : ByteArray} {c : UInt8} (h : hasM s c = false) : idxM s c = -1 := (idx_list c _).2 h
theorem index_any (s : ByteArray) (c : UInt8) (w : World) : Calls Tryd.prog 23 #[.string s, .int .u8 c.toNat] w fun e w' => e = .returned (.int .i64 (idxM s c)) ∧ w = w' :=
  (strings_IndexByte s c.toNat w).mono fun e w' ⟨h1, h2⟩ => ⟨by rw [h1]; unfold idxM; simp, h2.symm⟩
theorem index_yes (s : ByteArray) (c : UInt8) (w : World) (h : hasM s c = true) : Calls Tryd.prog 23 #[.string s, .int .u8 c.toNat] w fun e w' => ∃ k : Nat, e = .returned (.int .i64 k) ∧ w = w' :=
  (index_any s c w).mono fun e w' ⟨h1, h2⟩ => ⟨(idxM s c).toNat, by rw [h1, Int.toNat_of_nonneg (idx_yes h)], h2⟩
theorem index_no (s : ByteArray) (c : UInt8) (w : World) (h : hasM s c = false) : Calls Tryd.prog 23 #[.string s, .int .u8 c.toNat] w fun e w' => e = .returned (.int .i64 (-1)) ∧ w = w' :=
  (index_any s c w).mono fun e w' ⟨h1, h2⟩ => ⟨by rw [h1, idx_no h], h2⟩

theorem escL_snoc (sl co l : List UInt8) (c : UInt8) : escL sl co (l ++ [c]) = escL sl co l ++ escB sl co c := by simp [escL]
theorem take_snoc' (s : ByteArray) (i : Nat) (h : i < s.size) : s.data.toList.take (i + 1) = s.data.toList.take i ++ [bt s i] := by
  have h' : i < s.data.toList.length := by simpa using h
  rw [List.take_succ_eq_append_getElem h']
  congr 2
  have := bt_data s i h
  rw [List.getElem?_eq_getElem h'] at this
  exact Option.some.inj this
theorem escB_four (sl co : List UInt8) (c : UInt8) : (escB sl co c).length ≤ 4 := by
  unfold escB
  (repeat' split) <;> simp [hexF]

set_option maxHeartbeats 3200000 in
theorem escaped_any (s sl co : ByteArray) (w : World) (hs : s.size ≤ 65536) :
    Calls Tryd.prog 45 #[.string s, .string sl, .string co] w fun e w' => e = .returned (.string (bytesOf (escL sl.data.toList co.data.toList s.data.toList))) ∧ Below w.heap.size w w' := by
  go_enter Tryd.func45, Tryd.ntmps45
  go_wp2_with fail
  go_loopg [12] (s.size + 1) (fun n v wr => ∃ i : Nat, i ≤ s.size ∧ v = .int .i64 i ∧ Hid (n = s.size + 1 - i) ∧ Hid (Bu w.heap.size w.heap.size (escL sl.data.toList co.data.toList (s.data.toList.take i)) wr) ∧ Hid (Below w.heap.size w wr))
  case atStart => exact ⟨0, by omega, rfl, rfl, Bu.fresh w, (Below.refl _ _).alloc (Nat.le_refl _) _⟩
  case round =>
    obtain ⟨i, hi, rfl, HN, HBu, HB⟩ := hrel
    have hlen4 : (escL sl.data.toList co.data.toList (s.data.toList.take i)).length ≤ 300000 := by
      have := escL_four (escB_four sl.data.toList co.data.toList) (s.data.toList.take i)
      have h2 : (s.data.toList.take i).length ≤ i := List.length_take_le _ _
      omega
    by_cases hlt : i < s.size
    · have d1 : decide ((i : Int) < (s.size : Int)) = true := decide_eq_true (by omega)
      have d2 : (i : Int) < (s.size : Int) := by omega
      have hbt : s[i] = bt s i := bt_at s i hlt
      have hts := take_snoc' s i hlt
      have hes := escL_snoc sl.data.toList co.data.toList (s.data.toList.take i) (bt s i)
      rw [← hts] at hes
      have HES := Lib.hid hes
      clear hes hts
      generalize bt s i = c at *
      generalize hE : escL sl.data.toList co.data.toList (s.data.toList.take i) = E at *
      have HE := Lib.hid hE
      clear hE
      have hsz := HB.out.size
      by_cases c10 : c.toNat = 10
      · have t1 : ((c.toNat : Int) == 10) = true := by simp; omega
        have he : escB sl.data.toList co.data.toList c = [92, 110] := by unfold escB; rw [if_pos c10]
        rw [he] at HES
        clear he c10
        go_wp2_with fail
        refine (wStr _ _ E _ _ HBu.out (by omega) (by decide) hsz).mono ?_
        rintro e w2 ⟨rfl, hbu, hb⟩
        have HB2 := Lib.hid (HB.out.trans hb)
        have HBu2 := Lib.hid hbu
        clear hb hbu
        go_wp2_with fail
        go_roundg (s.size + 1 - (i + 1))
        case measure => have := HN.out; omega
        case rel => exact ⟨i + 1, by omega, by go_num, rfl, by rw [HES.out]; exact HBu2.out, HB2.out⟩
      · have f10 : ((c.toNat : Int) == 10) = false := beq_eq_false_iff_ne.2 (by omega)
        by_cases c9 : c.toNat = 9
        · have t1 : ((c.toNat : Int) == 9) = true := by simp; omega
          have he : escB sl.data.toList co.data.toList c = [92, 116] := by unfold escB; rw [if_neg c10, if_pos c9]
          rw [he] at HES
          clear he c10 c9
          go_wp2_with fail
          refine (wStr _ _ E _ _ HBu.out (by omega) (by decide) hsz).mono ?_
          rintro e w2 ⟨rfl, hbu, hb⟩
          have HB2 := Lib.hid (HB.out.trans hb)
          have HBu2 := Lib.hid hbu
          clear hb hbu
          go_wp2_with fail
          go_roundg (s.size + 1 - (i + 1))
          case measure => have := HN.out; omega
          case rel => exact ⟨i + 1, by omega, by go_num, rfl, by rw [HES.out]; exact HBu2.out, HB2.out⟩
        · have f9 : ((c.toNat : Int) == 9) = false := beq_eq_false_iff_ne.2 (by omega)
          by_cases c92 : c.toNat = 92
          · have t1 : ((c.toNat : Int) == 92) = true := by simp; omega
            have he : escB sl.data.toList co.data.toList c = [92, c] := by unfold escB; rw [if_neg c10, if_neg c9, if_pos (.inl c92)]
            rw [he] at HES
            clear he c10 c9 c92
            go_wp2_with fail
            refine (wByte _ _ E 92 _ HBu.out (by omega) hsz).mono ?_
            rintro e w2 ⟨rfl, hbu, hb⟩
            have HB2 := Lib.hid (HB.out.trans hb)
            have HBu2 := Lib.hid hbu
            have hsz2 := HB2.out.size
            clear hb hbu
            go_wp2_with fail
            refine (wByte _ _ (E ++ [92]) c _ HBu2.out (by simp; omega) hsz2).mono ?_
            rintro e w3 ⟨rfl, hbu, hb⟩
            have HB3 := Lib.hid (HB2.out.trans hb)
            have HBu3 : Hid (Bu w.heap.size w.heap.size (E ++ [92, c]) w3) := Lib.hid (by have := hbu; rw [List.append_assoc] at this; exact this)
            clear hb hbu
            go_wp2_with fail
            go_roundg (s.size + 1 - (i + 1))
            case measure => have := HN.out; omega
            case rel => exact ⟨i + 1, by omega, by go_num, rfl, by rw [HES.out]; exact HBu3.out, HB3.out⟩
          · have f92 : ((c.toNat : Int) == 92) = false := beq_eq_false_iff_ne.2 (by omega)
            cases hsl : hasM sl c with
            | true =>
              have he : escB sl.data.toList co.data.toList c = [92, c] := by unfold escB; rw [if_neg c10, if_neg c9, if_pos (.inr hsl)]
              rw [he] at HES
              have HSL := Lib.hid hsl
              clear he c10 c9 c92 hsl
              go_wp2_with fail
              refine (index_yes sl c _ HSL.out).mono ?_
              rintro e w' ⟨k, rfl, rfl⟩
              have tk1 : decide ((0 : Int) ≤ (k : Int)) = true := decide_eq_true (by omega)
              go_wp2_with fail
              refine (wByte _ _ E 92 _ HBu.out (by omega) hsz).mono ?_
              rintro e w2 ⟨rfl, hbu, hb⟩
              have HB2 := Lib.hid (HB.out.trans hb)
              have HBu2 := Lib.hid hbu
              have hsz2 := HB2.out.size
              clear hb hbu
              go_wp2_with fail
              refine (wByte _ _ (E ++ [92]) c _ HBu2.out (by simp; omega) hsz2).mono ?_
              rintro e w3 ⟨rfl, hbu, hb⟩
              have HB3 := Lib.hid (HB2.out.trans hb)
              have HBu3 : Hid (Bu w.heap.size w.heap.size (E ++ [92, c]) w3) := Lib.hid (by have := hbu; rw [List.append_assoc] at this; exact this)
              clear hb hbu
              go_wp2_with fail
              go_roundg (s.size + 1 - (i + 1))
              case measure => have := HN.out; omega
              case rel => exact ⟨i + 1, by omega, by go_num, rfl, by rw [HES.out]; exact HBu3.out, HB3.out⟩
            | false =>
              have HSL := Lib.hid hsl
              have hn92 : ¬(c.toNat = 92 ∨ sl.data.toList.contains c = true) := by rintro (h | h); exact c92 h; unfold hasM at hsl; rw [hsl] at h; cases h
              by_cases c32 : c.toNat < 32
              · have t1 : decide ((c.toNat : Int) < 32) = true := decide_eq_true (by omega)
                have t2 : decide (c.toNat < 32) = true := decide_eq_true c32
                have he : escB sl.data.toList co.data.toList c = hexF c := by unfold escB; rw [if_neg c10, if_neg c9, if_neg hn92, if_pos (.inl c32)]
                rw [he] at HES
                clear he c10 c9 c92 hsl hn92
                go_wp2_with fail
                refine (index_no sl c _ HSL.out).mono ?_
                rintro e w' ⟨rfl, rfl⟩
                go_wp2_with fail
                refine (hexEscape_any c _).mono ?_
                rintro e w2 ⟨rfl, n, rfl⟩
                have HB2 := Lib.hid (below_drewN HB.out n)
                have HBu2 := Lib.hid (HBu.out.below (below_drewN (Below.refl _ _) n))
                go_wp2_with fail
                refine (wStr _ _ E (bytesOf (hexF c)) _ HBu2.out (by omega) (by simp [bytesOf, hexF, ByteArray.size]) HB2.out.size).mono ?_
                rintro e w3 ⟨rfl, hbu, hb⟩
                have HB3 := Lib.hid (HB2.out.trans hb)
                have HBu3 : Hid (Bu w.heap.size w.heap.size (E ++ hexF c) w3) := Lib.hid hbu
                clear hb hbu
                go_wp2_with fail
                go_roundg (s.size + 1 - (i + 1))
                case measure => have := HN.out; omega
                case rel => exact ⟨i + 1, by omega, by go_num, rfl, by rw [HES.out]; exact HBu3.out, HB3.out⟩
              · have f32 : decide ((c.toNat : Int) < 32) = false := decide_eq_false (by omega)
                by_cases c126 : 126 < c.toNat
                · have t1 : decide ((126 : Int) < (c.toNat : Int)) = true := decide_eq_true (by omega)
                  have he : escB sl.data.toList co.data.toList c = hexF c := by unfold escB; rw [if_neg c10, if_neg c9, if_neg hn92, if_pos (.inr (.inl c126))]
                  rw [he] at HES
                  clear he c10 c9 c92 hsl hn92
                  go_wp2_with fail
                  refine (index_no sl c _ HSL.out).mono ?_
                  rintro e w' ⟨rfl, rfl⟩
                  go_wp2_with fail
                  refine (hexEscape_any c _).mono ?_
                  rintro e w2 ⟨rfl, n, rfl⟩
                  have HB2 := Lib.hid (below_drewN HB.out n)
                  have HBu2 := Lib.hid (HBu.out.below (below_drewN (Below.refl _ _) n))
                  go_wp2_with fail
                  refine (wStr _ _ E (bytesOf (hexF c)) _ HBu2.out (by omega) (by simp [bytesOf, hexF, ByteArray.size]) HB2.out.size).mono ?_
                  rintro e w3 ⟨rfl, hbu, hb⟩
                  have HB3 := Lib.hid (HB2.out.trans hb)
                  have HBu3 : Hid (Bu w.heap.size w.heap.size (E ++ hexF c) w3) := Lib.hid hbu
                  clear hb hbu
                  go_wp2_with fail
                  go_roundg (s.size + 1 - (i + 1))
                  case measure => have := HN.out; omega
                  case rel => exact ⟨i + 1, by omega, by go_num, rfl, by rw [HES.out]; exact HBu3.out, HB3.out⟩
                · have f126 : decide ((126 : Int) < (c.toNat : Int)) = false := decide_eq_false (by omega)
                  cases hco : hasM co c with
                  | true =>
                    have he : escB sl.data.toList co.data.toList c = hexF c := by unfold escB; rw [if_neg c10, if_neg c9, if_neg hn92, if_pos (.inr (.inr hco))]
                    rw [he] at HES
                    have HCO := Lib.hid hco
                    clear he c10 c9 c92 hsl hn92 hco
                    go_wp2_with fail
                    refine (index_no sl c _ HSL.out).mono ?_
                    rintro e w' ⟨rfl, rfl⟩
                    go_wp2_with fail
                    refine (index_yes co c _ HCO.out).mono ?_
                    rintro e w' ⟨k, rfl, rfl⟩
                    have tk1 : decide ((0 : Int) ≤ (k : Int)) = true := decide_eq_true (by omega)
                    go_wp2_with fail
                    refine (hexEscape_any c _).mono ?_
                    rintro e w2 ⟨rfl, n, rfl⟩
                    have HB2 := Lib.hid (below_drewN HB.out n)
                    have HBu2 := Lib.hid (HBu.out.below (below_drewN (Below.refl _ _) n))
                    go_wp2_with fail
                    refine (wStr _ _ E (bytesOf (hexF c)) _ HBu2.out (by omega) (by simp [bytesOf, hexF, ByteArray.size]) HB2.out.size).mono ?_
                    rintro e w3 ⟨rfl, hbu, hb⟩
                    have HB3 := Lib.hid (HB2.out.trans hb)
                    have HBu3 : Hid (Bu w.heap.size w.heap.size (E ++ hexF c) w3) := Lib.hid hbu
                    clear hb hbu
                    go_wp2_with fail
                    go_roundg (s.size + 1 - (i + 1))
                    case measure => have := HN.out; omega
                    case rel => exact ⟨i + 1, by omega, by go_num, rfl, by rw [HES.out]; exact HBu3.out, HB3.out⟩
                  | false =>
                    have he : escB sl.data.toList co.data.toList c = [c] := by
                      unfold escB; rw [if_neg c10, if_neg c9, if_neg hn92, if_neg]
                      rintro (h | h | h)
                      · exact c32 h
                      · exact c126 h
                      · unfold hasM at hco; rw [hco] at h; cases h
                    rw [he] at HES
                    have HCO := Lib.hid hco
                    clear he c10 c9 c92 hsl hn92 hco
                    go_wp2_with fail
                    refine (index_no sl c _ HSL.out).mono ?_
                    rintro e w' ⟨rfl, rfl⟩
                    go_wp2_with fail
                    refine (index_no co c _ HCO.out).mono ?_
                    rintro e w' ⟨rfl, rfl⟩
                    go_wp2_with fail
                    refine (wByte _ _ E c _ HBu.out (by omega) hsz).mono ?_
                    rintro e w2 ⟨rfl, hbu, hb⟩
                    have HB2 := Lib.hid (HB.out.trans hb)
                    have HBu2 := Lib.hid hbu
                    clear hb hbu
                    go_wp2_with fail
                    go_roundg (s.size + 1 - (i + 1))
                    case measure => have := HN.out; omega
                    case rel => exact ⟨i + 1, by omega, by go_num, rfl, by rw [HES.out]; exact HBu2.out, HB2.out⟩
    · obtain rfl : i = s.size := by omega
      have d1 : decide ((s.size : Int) < (s.size : Int)) = false := decide_eq_false (by omega)
      have e0 : s.data.toList.take s.size = s.data.toList := List.take_of_length_le (by simp)
      rw [e0] at HBu
      have hsz := HB.out.size
      go_wp2_with fail
      refine (bStr _ _ _ _ HBu.out hsz).mono ?_
      rintro e w2 ⟨rfl, hb⟩
      go_wp2_with fail
      go_ret
      exact ⟨rfl, HB.out.trans hb⟩
end Go.Proofs.YtcdidmohgcegmaaDoor
/- Contract of partForm. Condition: the text has at most 65536 bytes. -/
namespace Go.Proofs.YtcdidmohgcegmaaDoor
open Go.RowKit
set_option maxRecDepth 100000

theorem split_first (s : ByteArray) (h : 0 < s.size) : s.data.toList = bt s 0 :: (s.extract 1 s.size).data.toList := by
  have h' : 0 < s.data.toList.length := by simpa using h
  rw [Go.Lib.extract_data]
  have e : s.data.toList = bt s 0 :: s.data.toList.drop 1 := by
    have := List.drop_eq_getElem_cons h'
    rw [List.drop_zero] at this
    have hb := bt_data s 0 h
    rw [List.getElem?_eq_getElem h'] at hb
    rw [← Option.some.inj hb]
    exact this
  have e2 : (s.data.toList.drop 1).take (s.size - 1) = s.data.toList.drop 1 := List.take_of_length_le (by simp)
  rw [e2]; exact e
theorem bytesOf_data (s : ByteArray) : bytesOf s.data.toList = s := by
  obtain ⟨⟨l⟩⟩ := s
  rfl
theorem bytesOf_append (a b : List UInt8) : bytesOf a ++ bytesOf b = bytesOf (a ++ b) := by
  apply ByteArray.ext
  simp [bytesOf, ByteArray.data_append]
theorem bytesOf_size (l : List UInt8) : (bytesOf l).size = l.length := by simp [bytesOf, ByteArray.size]

theorem escaped_part (s : ByteArray) (w : World) (hs : s.size ≤ 65536) :
    Calls Tryd.prog 45 #[.string s, .string ⟨#[34, 36]⟩, .string ⟨#[]⟩] w fun e w' => e = .returned (.string (bytesOf (escL [34, 36] [] s.data.toList))) ∧ Below w.heap.size w w' := escaped_any s ⟨#[34, 36]⟩ ⟨#[]⟩ w hs

set_option maxHeartbeats 1600000 in
theorem partForm_any (s : ByteArray) (beh : Bool) (w : World) (hg : Gl w) (hs : s.size ≤ 65536) :
    Calls Tryd.prog 46 #[.string s, .bool beh] w fun e w' => e = .returned (.string (bytesOf (partL beh s.data.toList))) ∧ Below w.heap.size w w' := by
  have HG := Lib.hid hg
  clear hg
  have plain : partL beh s.data.toList = escL [34, 36] [] s.data.toList → (beh = false ∨ s.size = 0 ∨ inWordM (bt s 0) = false) →
      Calls Tryd.prog 46 #[.string s, .bool beh] w fun e w' => e = .returned (.string (bytesOf (partL beh s.data.toList))) ∧ Below w.heap.size w w' := fun hp hc => by
    rw [hp]
    cases beh with
    | false =>
      clear hp hc
      go_enter Tryd.func46, Tryd.ntmps46
      go_wp2_with fail
      refine (escaped_part s _ hs).mono ?_
      rintro e w' ⟨rfl, hb⟩
      go_wp2_with fail
      go_ret
      exact ⟨rfl, hb⟩
    | true =>
      by_cases h0 : s.size = 0
      · have hne : s.toList = [] := by rw [Go.Lib.toList_data]; exact List.eq_nil_of_length_eq_zero (by simpa using h0)
        have hne2 : s.toList.isEmpty = true := by rw [hne]; rfl
        clear hp hc h0
        go_enter Tryd.func46, Tryd.ntmps46
        go_wp2_with fail
        refine (escaped_part s _ hs).mono ?_
        rintro e w' ⟨rfl, hb⟩
        go_wp2_with fail
        go_ret
        exact ⟨rfl, hb⟩
      · have hin : inWordM (bt s 0) = false := by rcases hc with h | h | h; cases h; exact absurd h h0; exact h
        have hpos : 0 < s.size := by omega
        have hpi : (0 : Int) < (s.size : Int) := by omega
        have hne2 : s.toList.isEmpty = false := toList_isEmpty s hpos
        have hb0 : s[0] = bt s 0 := bt_at s 0 hpos
        have HIW := Lib.hid hin
        clear hp hc h0 hin
        generalize bt s 0 = c at *
        go_enter Tryd.func46, Tryd.ntmps46
        go_wp2_with fail
        refine (inWord_any c w HG.out).mono ?_
        rintro e w' ⟨rfl, rfl⟩
        rw [HIW.out]
        go_wp2_with fail
        refine (escaped_part s _ hs).mono ?_
        rintro e w' ⟨rfl, hb⟩
        go_wp2_with fail
        go_ret
        exact ⟨rfl, hb⟩
  by_cases h0 : s.size = 0
  · refine plain ?_ (.inr (.inl h0))
    have : s.data.toList = [] := List.eq_nil_of_length_eq_zero (by simpa using h0)
    rw [this]; rfl
  · have hsp := split_first s (by omega)
    cases beh with
    | false => exact plain (by rw [hsp]; simp [partL]) (.inl rfl)
    | true =>
      cases hin : inWordM (bt s 0) with
      | false => exact plain (by rw [hsp]; simp [partL, hin]) (.inr (.inr hin))
      | true =>
        have hpt : partL true s.data.toList = hexF (bt s 0) ++ escL [34, 36] [] (s.extract 1 s.size).data.toList := by rw [hsp]; simp [partL, hin]
        rw [hpt, ← bytesOf_append]
        have hpos : 0 < s.size := by omega
        have hpi : (0 : Int) < (s.size : Int) := by omega
        have hpi1 : (1 : Int) ≤ (s.size : Int) := by omega
        have hne2 : s.toList.isEmpty = false := toList_isEmpty s hpos
        have hb0 : s[0] = bt s 0 := bt_at s 0 hpos
        have hsl := fun (W : World) => run_slice_string_l (P := Tryd.prog) W 9 s Tryd.underlying9 .i64 1 (by omega) hpi1
        have hsz : (s.extract 1 s.size).size ≤ 65536 := by rw [ByteArray.size_extract]; omega
        have hl4 := escL_four (escB_four [34, 36] []) (s.extract 1 s.size).data.toList
        have hl5 : (s.extract 1 s.size).data.toList.length = (s.extract 1 s.size).size := by simp
        have ha1 : (bytesOf (hexF (bt s 0))).size + (bytesOf (escL [34, 36] [] (s.extract 1 s.size).data.toList)).size ≤ 9223372036854775807 := by
          have e4 : (hexF (bt s 0)).length = 4 := rfl
          rw [bytesOf_size, bytesOf_size]; omega
        have hadd := fun (W : World) => run_string_add_sum (P := Tryd.prog) (w := W) _ _ ha1
        have HIW := Lib.hid hin
        have HSZ := Lib.hid hsz
        have HHX := Lib.hid (fun (W : World) => hexEscape_any (bt s 0) W)
        have HEX := Lib.hid (fun (W : World) => escaped_part (s.extract 1 s.size) W HSZ.out)
        clear plain hpt hsp h0 hin hl4 hl5 ha1 hsz hs HSZ
        generalize bytesOf (hexF (bt s 0)) = A at *
        generalize bytesOf (escL [34, 36] [] (s.extract 1 s.size).data.toList) = Z at *
        generalize bt s 0 = c at *
        go_enter Tryd.func46, Tryd.ntmps46
        go_wp2_with fail
        refine (inWord_any c w HG.out).mono ?_
        rintro e w' ⟨rfl, rfl⟩
        rw [HIW.out]
        go_wp2_with fail
        go_region_with (first | (go_at_call 56; refine (HHX.out _).mono ?_; rintro e w' ⟨rfl, n, rfl⟩) | (go_at_call 45; refine (HEX.out _).mono ?_; rintro e w' ⟨rfl, hb⟩; have HB := Lib.hid hb; clear hb))
        all_goals
          go_wp2_with fail
          go_ret
          exact ⟨rfl, Below.trans (below_drewN (Below.refl _ w) _) HB.out⟩
end Go.Proofs.YtcdidmohgcegmaaDoor
