/- Contracts of the reference's small functions: in, among, FindClass, Inside. -/
import Derived.Test.YtfbaikijnjafbaaGreatDoorTs
namespace Go.Proofs.YtfbaikijnjafbaaGreatDoor
set_option linter.unusedSimpArgs false
set_option linter.unusedVariables false
open Go.RowKit
set_option maxRecDepth 100000

theorem cls_cells0 {w : World} {b o : Nat} {T : Cls} (h : CellsIn w b o T.cells) :
    w.cell? ⟨b, o, none⟩ = some (.string T.nm) ∧ w.cell? ⟨b, o + 1, none⟩ = some (I T.kind) ∧ w.cell? ⟨b, o + 2, none⟩ = some (I T.flags) ∧ w.cell? ⟨b, o + 3, none⟩ = some (I T.owner) ∧ w.cell? ⟨b, o + 4, none⟩ = some T.tps.v ∧
    w.cell? ⟨b, o + 5, none⟩ = some T.pars.v ∧ w.cell? ⟨b, o + 6, none⟩ = some T.prms.v ∧ w.cell? ⟨b, o + 7, none⟩ = some T.flds.v ∧ w.cell? ⟨b, o + 8, none⟩ = some T.mths.v ∧ w.cell? ⟨b, o + 9, none⟩ = some T.tys.v ∧
    w.cell? ⟨b, o + 10, none⟩ = some T.sups.v ∧ w.cell? ⟨b, o + 11, none⟩ = some T.ini.v ∧ w.cell? ⟨b, o + 12, none⟩ = some (I T.p) :=
  ⟨h 0 (by simp [Cls.cells]), h 1 (by simp [Cls.cells]), h 2 (by simp [Cls.cells]), h 3 (by simp [Cls.cells]), h 4 (by simp [Cls.cells]), h 5 (by simp [Cls.cells]), h 6 (by simp [Cls.cells]), h 7 (by simp [Cls.cells]), h 8 (by simp [Cls.cells]), h 9 (by simp [Cls.cells]), h 10 (by simp [Cls.cells]), h 11 (by simp [Cls.cells]), h 12 (by simp [Cls.cells])⟩

def inM (i n : Int) : Bool := decide (0 ≤ i) && decide (i < n)
theorem in54_any (i n : Int) (w : World) : Calls Tryz.prog 40 #[I i, I n] w fun e w' => e = .returned (.bool (inM i n)) ∧ w = w' := by
  unfold inM
  by_cases h : 0 ≤ i
  · have d1 : decide (0 ≤ i) = true := decide_eq_true h
    rw [d1, Bool.true_and]
    clear h
    go_enter Tryz.func40, Tryz.ntmps40
    go_wp2_with fail
    go_ret
    exact ⟨rfl, rfl⟩
  · have d1 : decide (0 ≤ i) = false := decide_eq_false h
    rw [d1, Bool.false_and]
    clear h
    go_enter Tryz.func40, Tryz.ntmps40
    go_wp2_with fail
    go_ret
    exact ⟨rfl, rfl⟩

def amongM (l : List Int) (x : Int) : Bool := l.any (· == x)
theorem among50_any {ok : Nat → Prop} (s : Sl Int) (x : Int) (w : World) (hs : IntsL ok w s) : Calls Tryz.prog 36 #[s.v, I x] w fun e w' => e = .returned (.bool (amongM s.l x)) ∧ w = w' := by
  obtain ⟨a, cap, l⟩ := s
  have hl : l.length ≤ 140737488355328 := by
    have h1 := hs.1.1; have h2 := hs.1.2.1
    dsimp only at h1 h2
    omega
  unfold Sl.v
  dsimp only
  generalize hres : amongM l x = res
  have HR := Lib.hid hres
  have HS := Lib.hid hs
  have HL := Lib.hid hl
  clear hs hl hres
  go_enter Tryz.func36, Tryz.ntmps36
  go_wp2_with fail
  go_loopg [5] (l.length + 1) (fun n v wr => ∃ i : Nat, i ≤ l.length ∧ v = .int .i64 i ∧ Hid (n = l.length + 1 - i) ∧ Hid (amongM (l.drop i) x = res) ∧ wr = w)
  case atStart => exact ⟨0, by omega, rfl, rfl, HR.out, rfl⟩
  case round =>
    obtain ⟨i, hi, rfl, HN, HD, rfl⟩ := hrel
    by_cases hlt : i < l.length
    · have d2 : ((i : Int) < (l.length : Int)) := by omega
      obtain ⟨b, o, ha, hok, hcs⟩ := sl_at HS.out.1 (by show 0 < l.length; omega)
      dsimp only at ha
      subst ha
      have ht : wr.cell? ⟨b, o + i, none⟩ = some (I l[i]) := by have := hcs i hlt 0 (by simp); simpa using this
      have HD2 : Hid ((l[i] == x || amongM (l.drop (i + 1)) x) = res) := by have := HD.out; rw [List.drop_eq_getElem_cons hlt] at this; exact this
      clear hcs hok HD
      generalize l[i] = y at *
      by_cases hy : y = x
      · subst hy
        have d3 : (y == y) = true := by simp
        go_wp2_with fail
        go_ret
        have := HD2.out
        rw [d3, Bool.true_or] at this
        subst this
        exact ⟨rfl, rfl⟩
      · have d3 : (y == x) = false := by simpa using hy
        clear hy
        go_wp2_with fail
        have := HL.out
        go_roundg (l.length + 1 - (i + 1))
        case measure => have := HN.out; omega
        case rel =>
          refine ⟨i + 1, by omega, by first | go_num | (rw [IntWalk.wrap64_in _ (by omega)]; go_num), rfl, ?_, rfl⟩
          have := HD2.out
          rw [d3, Bool.false_or] at this
          exact this
    · obtain rfl : i = l.length := by omega
      go_wp2_with fail
      go_ret
      have := HD.out
      rw [List.drop_length] at this
      subst this
      exact ⟨rfl, rfl⟩

def findM (owner : Int) (name : ByteArray) (object : Bool) : List Cls → Nat → Int
  | [], _ => -1
  | c :: l, i => if c.owner == owner && (c.nm.toList == name.toList && ((c.kind == 2) == object)) then (i : Int) else findM owner name object l (i + 1)

/-- The box of a program, and what Check and its fellows do behind it: nothing below has turned. -/
theorem prg_box (p : Prg) (w : World) : ∀ j, (w.alloc (.cells #[p.cls.v, p.mth.v, p.fld.v, p.tpm.v, p.tym.v, I p.main] 28)).cell? ⟨w.heap.size, j, none⟩ = #[p.cls.v, p.mth.v, p.fld.v, p.tpm.v, p.tym.v, I p.main][j]? := fun j => World.cell?_alloc_new w _ 28 j

end Go.Proofs.YtfbaikijnjafbaaGreatDoor
