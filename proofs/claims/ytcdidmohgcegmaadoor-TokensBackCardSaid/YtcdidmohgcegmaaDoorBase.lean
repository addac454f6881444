/- The words in which the contracts of package tokens speak of memory: the frame 'Keep', the reader's block, the two listed tables. Plain lemmas, no condition. -/
import Derived.Test.YtcdidmohgcegmaaDoorRows
import Derived.WalkKit
import Derived.WalkSpells
import Derived.WalkLawsBesides
import Derived.WalkSmall
import Derived.Deep.AppendLies
import Derived.Deep.QuietTactic
import Derived.Deep.RegionLaw
import Derived.BigQuiet
import Derived.BigRegion
import Derived.Lib.Hide
import Derived.Deep.LoopGhost
import Derived.Deep.DeepFit
import Derived.Deep.DeepCutAuto
import Derived.Lib.ItoaWalk
namespace Go.Proofs.YtcdidmohgcegmaaDoor
open Go.RowKit

abbrev I (n : Nat) : Value := .int .i64 (n : Int)

structure Tok where
  kind : Nat
  text : ByteArray
  pos : Nat
  line : Nat
  col : Nat

structure Rd where
  pos : Nat
  start : Nat
  line : Nat
  ls : Nat
  opn : List (ByteArray × Nat)
  list : List Tok

structure Flt where
  pos : Nat
  code : Nat

def Tok.cells (t : Tok) : List Value := [I t.kind, .string t.text, I t.pos, I t.line, I t.col]
def opCells (m : ByteArray × Nat) : List Value := [.string m.1, I m.2]
def fltV (f : Flt) : Value := .agg #[I f.pos, I f.code]

theorem quiet_left {P : Program} {f : FuncId} {args : Array Value} {w : World} {n : Nat} {v : Value}
    (h : Calls P f args (w.drewN n) fun e w' => e = .returned v ∧ w.drewN n = w') : Calls P f args (w.drewN n) fun e w'' => e = .returned v ∧ ∃ m, w'' = w.drewN m :=
  h.mono fun _ _ ⟨he, hm⟩ => ⟨he, n, hm.symm⟩
theorem quiet_add_left {P : Program} {f : FuncId} {args : Array Value} {w : World} {a n : Nat} {v : Value}
    (h : Calls P f args (w.drewN (a + n)) fun e w' => e = .returned v ∧ w.drewN (a + n) = w') :
    Calls P f args (w.drewN (a + n)) fun e w'' => e = .returned v ∧ ∃ m, w'' = w.drewN (a + m) :=
  h.mono fun _ _ ⟨he, hm⟩ => ⟨he, n, hm.symm⟩
theorem quiet_drawn {P : Program} {f : FuncId} {args : Array Value} {w : World} {n : Nat} {v : Value}
    (h : Calls P f args (w.drewN n) fun e w' => e = .returned v ∧ ∃ m, w' = (w.drewN n).drewN m) : Calls P f args (w.drewN n) fun e w'' => e = .returned v ∧ ∃ m, w'' = w.drewN m :=
  h.mono fun _ _ ⟨he, m, hm⟩ => ⟨he, n + m, by rw [hm, World.drewN_drewN]⟩

/-- Below block number B nothing but block g has turned. -/
structure Keep (B g : Nat) (w w' : World) : Prop where
  os : w'.os = w.os
  tape : w'.tape = w.tape
  output : w'.output = w.output
  size : w.heap.size ≤ w'.heap.size
  block : ∀ k, k < B → k ≠ g → w'.heap[k]? = w.heap[k]?

section
variable {B g : Nat} {a w w' c : World}
theorem Keep.refl (B g : Nat) (w : World) : Keep B g w w := ⟨rfl, rfl, rfl, Nat.le_refl _, fun _ _ _ => rfl⟩
theorem Keep.trans (h : Keep B g a w) (k : Keep B g w c) : Keep B g a c :=
  ⟨k.os.trans h.os, k.tape.trans h.tape, k.output.trans h.output, Nat.le_trans h.size k.size, fun i hi hn => (k.block i hi hn).trans (h.block i hi hn)⟩
theorem Keep.drew (h : Keep B g a w) : Keep B g a w.drew := ⟨h.os, h.tape, h.output, h.size, h.block⟩
theorem Keep.drewN (h : Keep B g a w) (n : Nat) : Keep B g a (w.drewN n) := ⟨h.os, h.tape, h.output, h.size, h.block⟩
theorem Keep.alloc (h : Keep B g a w) (hB : B ≤ w.heap.size) (o : Obj) : Keep B g a (w.alloc o) :=
  h.trans ⟨rfl, rfl, rfl, by simp, fun k hk _ => Below.heap_alloc _ _ _ (by omega)⟩
theorem Keep.setCell (h : Keep B g a w) {p : Addr} (hp : p.block = g ∨ B ≤ p.block) (u : Value) : Keep B g a (w.setCell p u) :=
  h.trans ⟨rfl, rfl, rfl, by simp [World.setCell], fun k hk hn => Below.heap_setCell _ _ _ _ (by omega)⟩
theorem Keep.grown {row : Option Nat} (h : Keep B g a w) (hg : w.grownBy w' row) (hB : B ≤ w.heap.size) (hr : ∀ k, row = some k → B ≤ k) : Keep B g a w' :=
  h.trans ⟨hg.os, hg.tape, hg.output, hg.size, fun k hk _ => hg.block k (by omega) (fun e => by have := hr k e.symm; omega)⟩
theorem Keep.below (h : Keep B g a w) (hb : Below B w w') : Keep B g a w' :=
  h.trans ⟨hb.os, hb.tape, hb.output, hb.size, fun k hk _ => hb.block k hk⟩
theorem Keep.at_ (h : Keep B g a w) (i : Nat) (u : Value) : Keep B g a (w.setCell ⟨g, i, none⟩ u) := h.setCell (p := ⟨g, i, none⟩) (.inl rfl) u
theorem Keep.cell (h : Keep B g w w') {p : Addr} (hp : p.block < B) (hn : p.block ≠ g) : w'.cell? p = w.cell? p := World.cell?_of_block (h.block p.block hp hn)
theorem Keep.toBelow (h : Keep B g w w') {C : Nat} (hC : C ≤ B) (hg : C ≤ g) : Below C w w' :=
  ⟨h.os, h.tape, h.output, h.size, fun k hk => h.block k (by omega) (by omega)⟩
end

/-- The reader at block g: its text, its numbers, its two slices. -/
def RdAt (w : World) (B g : Nat) (s : ByteArray) (r : Rd) : Prop :=
  ∃ ov lv, w.heap[g]? = some (.cells #[.string s, I r.pos, I r.start, I r.line, I r.ls, ov, lv] 48 (0, 0)) ∧ g < B ∧ B ≤ w.heap.size ∧
    w.ownsRow B 79 2 ov r.opn.length (r.opn.flatMap opCells) ∧ w.ownsRow B 34 5 lv r.list.length (r.list.flatMap Tok.cells)

theorem ownsRow_at {w w' : World} {B e size n : Nat} {v : Value} {xs : List Value} (h : w.ownsRow B e size v n xs) (hk : ∀ k, B ≤ k → k < w.heap.size → w'.heap[k]? = w.heap[k]?) : w'.ownsRow B e size v n xs := by
  refine ⟨h.1, ?_⟩
  rcases h.2 with h2 | ⟨g, cap, cur, hv, hb, hg, hr⟩
  · exact .inl h2
  · refine .inr ⟨g, cap, cur, hv, hb, ?_, hr⟩
    have hlt : g < w.heap.size := by
      rcases Nat.lt_or_ge g w.heap.size with hlt | hge
      · exact hlt
      · rw [Array.getElem?_eq_none hge] at hg; cases hg
    exact (hk g hb hlt).trans hg

section
variable {w w' : World} {B g : Nat} {s : ByteArray} {r : Rd}
theorem RdAt.drewN (h : RdAt w B g s r) (n : Nat) : RdAt (w.drewN n) B g s r := h
theorem RdAt.drew (h : RdAt w B g s r) : RdAt w.drew B g s r := h
theorem RdAt.lt (h : RdAt w B g s r) : g < B := by obtain ⟨_, _, _, h, _⟩ := h; exact h
theorem RdAt.le (h : RdAt w B g s r) : B ≤ w.heap.size := by obtain ⟨_, _, _, _, h, _⟩ := h; exact h
theorem RdAt.alloc (h : RdAt w B g s r) (o : Obj) : RdAt (w.alloc o) B g s r := by
  obtain ⟨ov, lv, hg, hlt, hle, ho, hl⟩ := h
  exact ⟨ov, lv, (Below.heap_alloc w o g (by omega)).trans hg, hlt, by simp; omega, ownsRow_at ho fun k _ hk => Below.heap_alloc w o k hk, ownsRow_at hl fun k _ hk => Below.heap_alloc w o k hk⟩
theorem RdAt.cells (h : RdAt w B g s r) : w.cell? ⟨g, 0, none⟩ = some (.string s) ∧ w.cell? ⟨g, 1, none⟩ = some (I r.pos) ∧ w.cell? ⟨g, 2, none⟩ = some (I r.start) ∧ w.cell? ⟨g, 3, none⟩ = some (I r.line) ∧ w.cell? ⟨g, 4, none⟩ = some (I r.ls) := by
  obtain ⟨ov, lv, hg, _⟩ := h
  simp [cell_of_row w g _ _ _ _ hg]
theorem RdAt.frozen (h : RdAt w B g s r) (i : Nat) : w.frozen? ⟨g, i, none⟩ = false := by
  obtain ⟨ov, lv, hg, _⟩ := h
  simp [World.frozen?, hg]
/-- A store into one of the four numbers. -/
theorem RdAt.put (h : RdAt w B g s r) {i : Nat} {u : Value} {r' : Rd}
    (hc : ∀ ov lv, (#[.string s, I r.pos, I r.start, I r.line, I r.ls, ov, lv] : Array Value).setIfInBounds i u = #[.string s, I r'.pos, I r'.start, I r'.line, I r'.ls, ov, lv]) (ho : r'.opn = r.opn) (hl : r'.list = r.list) :
    RdAt (w.setCell ⟨g, i, none⟩ u) B g s r' := by
  obtain ⟨ov, lv, hg, hlt, hle, h1, h2⟩ := h
  refine ⟨ov, lv, ?_, hlt, by simpa [World.setCell] using hle, ?_, ?_⟩
  · rw [← hc ov lv]
    simp [World.setCell, Array.getElem?_modify, hg]
  · rw [ho]; exact ownsRow_setCell_below h1 hlt u
  · rw [hl]; exact ownsRow_setCell_below h2 hlt u
theorem RdAt.pos' (h : RdAt w B g s r) (n : Nat) : RdAt (w.setCell ⟨g, 1, none⟩ (I n)) B g s { r with pos := n } := h.put (fun _ _ => by simp) rfl rfl
theorem RdAt.start' (h : RdAt w B g s r) (n : Nat) : RdAt (w.setCell ⟨g, 2, none⟩ (I n)) B g s { r with start := n } := h.put (fun _ _ => by simp) rfl rfl
theorem RdAt.line' (h : RdAt w B g s r) (n : Nat) : RdAt (w.setCell ⟨g, 3, none⟩ (I n)) B g s { r with line := n } := h.put (fun _ _ => by simp) rfl rfl
theorem RdAt.ls' (h : RdAt w B g s r) (n : Nat) : RdAt (w.setCell ⟨g, 4, none⟩ (I n)) B g s { r with ls := n } := h.put (fun _ _ => by simp) rfl rfl
end

def clsL : List Nat := [0,0,0,0,0,0,0,0,0,1,1,0,0,0,0,0,0,0,0,0,0,0,0,0,0,0,0,0,0,0,0,0,1,4,7,0,8,4,4,6,5,5,4,4,5,4,5,4,3,3,3,3,3,3,3,3,3,3,4,5,4,4,4,4,5,2,2,2,2,2,2,2,2,2,2,2,2,2,2,2,2,2,2,2,2,2,2,2,2,2,2,5,0,5,4,2,0,2,2,2,2,2,2,2,2,2,2,2,2,2,2,2,2,2,2,2,2,2,2,2,2,2,2,5,4,5,4,0]
def kwL : List (List UInt8) := [[97, 98, 115, 116, 114, 97, 99, 116], [99, 97, 115, 101], [99, 97, 116, 99, 104], [99, 108, 97, 115, 115], [100, 101, 102], [100, 111], [101, 108, 115, 101], [101, 110, 117, 109], [101, 120, 116, 101, 110, 100, 115], [101, 120, 116, 101, 110, 115, 105, 111, 110], [102, 97, 108, 115, 101], [102, 105, 110, 97, 108], [102, 105, 110, 97, 108, 108, 121], [102, 111, 114], [103, 105, 118, 101, 110], [105, 102], [105, 109, 112, 111, 114, 116], [105, 110, 108, 105, 110, 101], [108, 97, 122, 121], [109, 97, 116, 99, 104], [110, 101, 119], [110, 117, 108, 108], [111, 98, 106, 101, 99, 116], [111, 118, 101, 114, 114, 105, 100, 101], [112, 114, 105, 118, 97, 116, 101], [114, 101, 116, 117, 114, 110], [115, 101, 97, 108, 101, 100], [115, 117, 112, 101, 114], [116, 104, 101, 110], [116, 104, 105, 115], [116, 104, 114, 111, 119], [116, 114, 97, 105, 116], [116, 114, 117, 101], [116, 114, 121], [116, 121, 112, 101], [117, 115, 105, 110, 103], [118, 97, 108], [118, 97, 114], [118, 111, 108, 97, 116, 105, 108, 101], [119, 104, 105, 108, 101], [119, 105, 116, 104], [121, 105, 101, 108, 100]]
def kwCells : Array Value := (kwL.map fun l => Value.string ⟨l.toArray⟩).toArray
def clsCells : Array Value := (clsL.map fun (n : Nat) => Value.int .u8 (n : Int)).toArray
/-- The two listed tables hold what the program's text lays. -/
def Gl (w : World) : Prop := 2 < w.heap.size ∧ (∃ t fr, w.heap[2]? = some (.cells clsCells t fr)) ∧ ∃ t fr, w.heap[0]? = some (.cells kwCells t fr)
theorem Gl.cls {w : World} (h : Gl w) (i : Nat) (hi : i < 128) : w.cell? ⟨2, i, none⟩ = some (.int .u8 ((clsL.getD i 0 : Nat) : Int)) := by
  obtain ⟨_, ⟨t, fr, h0⟩, _⟩ := h
  have hl : i < clsL.length := hi
  rw [cell_of_row w 2 i _ _ _ h0]
  simp [clsCells, List.getElem?_eq_getElem hl]
theorem Gl.below {B : Nat} {w w' : World} (h : Gl w) (hb : Below B w w') (hB : 2 < B) : Gl w' := by
  obtain ⟨h0, ⟨t, fr, h1⟩, t2, fr2, h2⟩ := h
  exact ⟨Nat.lt_of_lt_of_le h0 hb.size, ⟨t, fr, (hb.block 2 hB).trans h1⟩, t2, fr2, (hb.block 0 (by omega)).trans h2⟩
theorem Gl.keep {B g : Nat} {w w' : World} (h : Gl w) (hb : Keep B g w w') (hB : 2 < B) (hg : 2 < g) : Gl w' :=
  h.below (hb.toBelow (C := 3) (by omega) (by omega)) (by omega)
theorem Gl.drewN {w : World} (h : Gl w) (n : Nat) : Gl (w.drewN n) := h
theorem Gl.drew {w : World} (h : Gl w) : Gl w.drew := h
theorem Gl.alloc {w : World} (h : Gl w) (o : Obj) : Gl (w.alloc o) := h.below ((Below.refl 3 w).alloc h.1 o) (by omega)
theorem Gl.setCell {w : World} (h : Gl w) {p : Addr} (hp : 2 < p.block) (u : Value) : Gl (w.setCell p u) := h.below ((Below.refl 3 w).setCell hp u) (by omega)

/-- append, under a name that the walk does not open. -/
def App (ats : Array TypeId) (ty : TypeId) (args : Array Value) : Sem Value := Builtin.append_ ats ty args
theorem builtin_app (ats : Array TypeId) (ty : TypeId) (cs : Array Bool) (args : Array Value) : builtin .append ats ty cs args = (do pure (.value (← App ats ty args))) := rfl
theorem own_ne {w : World} {B e sz : Nat} {v : Value} {n g : Nat} {xs : List Value} (h : w.ownsRow B e sz v n xs) (hg : g < B) : v.ownBlock ≠ some g := by
  rcases h.2 with ⟨rfl, _⟩ | ⟨g', cap, cur, rfl, hb, _⟩
  · simp [Value.ownBlock]
  · simp [Value.ownBlock]; omega

theorem own_ge {w : World} {B e sz : Nat} {v : Value} {n k : Nat} {xs : List Value} (h : w.ownsRow B e sz v n xs) (hk : v.ownBlock = some k) : B ≤ k := by
  rcases h.2 with ⟨rfl, _⟩ | ⟨g', cap, cur, rfl, hb, _⟩
  · cases hk
  · have : g' = k := by simpa [Value.ownBlock] using hk
    omega
theorem alloc_drew_cell {w : World} {o : Obj} {a : Addr} (h : a.block < w.heap.size) : (w.alloc o).drew.cell? a = w.cell? a := World.cell?_of_block (Below.heap_alloc w o a.block h)
theorem alloc_drew_frozen {w : World} {o : Obj} {a : Addr} (h : a.block < w.heap.size) : (w.alloc o).drew.frozen? a = w.frozen? a := World.frozen?_of_block (Below.heap_alloc w o a.block h)

/-- A row of another element type stands, when one row has grown. -/
theorem own_other {w w' : World} {B e e' sz sz' n n' : Nat} {v v' : Value} {xs xs' : List Value} (h : w.ownsRow B e sz v n xs) (h' : w.ownsRow B e' sz' v' n' xs') (hne : e ≠ e') (hg : w.grownBy w' v'.ownBlock) : w'.ownsRow B e sz v n xs := by
  refine ⟨h.1, ?_⟩
  rcases h.2 with h2 | ⟨k, cap, cur, rfl, hb, hk, hr⟩
  · exact .inl h2
  · refine .inr ⟨k, cap, cur, rfl, hb, ?_, hr⟩
    have hlt : k < w.heap.size := by
      rcases Nat.lt_or_ge k w.heap.size with hlt | hge
      · exact hlt
      · rw [Array.getElem?_eq_none hge] at hk; cases hk
    refine (hg.block k hlt fun e => ?_).trans hk
    rcases h'.2 with ⟨rfl, _⟩ | ⟨k', cap', cur', rfl, _, hk', _⟩
    · cases e
    · have : k = k' := by simpa [Value.ownBlock] using e
      subst this
      rw [hk] at hk'
      injection hk' with hk'
      injection hk' with _ ht
      exact hne ht

end Go.Proofs.YtcdidmohgcegmaaDoor
