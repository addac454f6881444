/- awake answers true, in every memory in which the table of flags lies. -/
import Derived.Test.YtfbaikijnjafbaaGreatDoorSg
import Derived.Test.YtfbaikijnjafbaaGreatDoorSl
import Derived.Test.YtfbaikijnjafbaaGreatDoorSm
import Derived.Test.YtfbaikijnjafbaaGreatDoorSt
import Derived.Test.YtfbaikijnjafbaaGreatDoorSu
import Derived.Test.YtfbaikijnjafbaaGreatDoorAw
namespace Go.Proofs.YtfbaikijnjafbaaGreatDoor
set_option linter.unusedSimpArgs false
set_option linter.unusedVariables false
open Go.RowKit
set_option maxRecDepth 100000

/-- The codes of the rules for classes, in their places among the thirteen. -/
def rmC (P : Prg) (k i : Nat) : Int := match P.cls.l[i]? with
  | none => 0
  | some c => match k with
    | 0 => classM P i c
    | 1 => if insideM P.cls.l i i then 7 else 0
    | 2 => parentsM P c
    | 3 => ancestryM P i c
    | 8 => classTwiceM P i c
    | _ => 0
structure NoParts (P : Prg) : Prop where
  mth : P.mth.l = []
  fld : P.fld.l = []
  tpm : P.tpm.l = []
  tym : P.tym.l = []
  main : P.main = -1
theorem rmC_some {P : Prg} {i : Nat} (hi : i < P.cls.l.length) (k : Nat) : rmC P k i = (match k with
    | 0 => classM P i P.cls.l[i]
    | 1 => if insideM P.cls.l i i then 7 else 0
    | 2 => parentsM P P.cls.l[i]
    | 3 => ancestryM P i P.cls.l[i]
    | 8 => classTwiceM P i P.cls.l[i]
    | _ => 0) := by
  unfold rmC
  rw [List.getElem?_eq_getElem hi]
theorem rules_classes (P : Prg) (hP : NoParts P) (T : Nat) (W : World) (k i : Nat) (h : TL W T P) (hg : Gl W) (hk : k < 13) (hi : i < sizeM P ((ruleParts.getD k 0 : Nat) : Int)) : Calls Tryz.prog (ruleFns.getD k 0) #[ptr T, I i] W (Bof W (I (rmC P k i))) := by
  have h2 : sizeM P 2 = 0 := by show P.mth.l.length = 0; rw [hP.mth]; rfl
  have h3 : sizeM P 3 = 0 := by show P.fld.l.length = 0; rw [hP.fld]; rfl
  have h4 : sizeM P 4 = 0 := by show P.tpm.l.length = 0; rw [hP.tpm]; rfl
  have h5 : sizeM P 5 = 0 := by show P.tym.l.length = 0; rw [hP.tym]; rfl
  have hcs : k = 0 ∨ k = 1 ∨ k = 2 ∨ k = 3 ∨ k = 4 ∨ k = 5 ∨ k = 6 ∨ k = 7 ∨ k = 8 ∨ k = 9 ∨ k = 10 ∨ k = 11 ∨ k = 12 := by omega
  rcases hcs with rfl | rfl | rfl | rfl | rfl | rfl | rfl | rfl | rfl | rfl | rfl | rfl | rfl
  · have hi' : i < P.cls.l.length := hi
    rw [rmC_some hi']
    exact class_any P T i W h hg hi'
  · have hi' : i < P.cls.l.length := hi
    rw [rmC_some hi']
    exact nesting_any P T i W h
  · have hi' : i < P.cls.l.length := hi
    rw [rmC_some hi']
    exact parents_any P T i W h hi'
  · have hi' : i < P.cls.l.length := hi
    rw [rmC_some hi']
    exact ancestry_any P T i W h hi'
  · exact absurd hi (by show ¬ i < sizeM P 2; rw [h2]; omega)
  · exact absurd hi (by show ¬ i < sizeM P 3; rw [h3]; omega)
  · exact absurd hi (by show ¬ i < sizeM P 4; rw [h4]; omega)
  · exact absurd hi (by show ¬ i < sizeM P 5; rw [h5]; omega)
  · have hi' : i < P.cls.l.length := hi
    rw [rmC_some hi']
    exact classTwice_any P T i W h hi'
  · exact absurd hi (by show ¬ i < sizeM P 3; rw [h3]; omega)
  · exact absurd hi (by show ¬ i < sizeM P 2; rw [h2]; omega)
  · exact absurd hi (by show ¬ i < sizeM P 5; rw [h5]; omega)
  · exact absurd hi (by show ¬ i < sizeM P 4; rw [h4]; omega)
theorem main30_none (P : Prg) (T : Nat) (W : World) (h : TL W T P) (hm : P.main = -1) : Calls Tryz.prog 33 #[ptr T] W (Bof W (I 0)) := by
  obtain ⟨_, _, _, _, _, c5⟩ := h.cells
  rw [hm] at c5
  unfold Bof
  clear h hm
  go_enter Tryz.func33, Tryz.ntmps33
  go_wp2_with fail
  go_ret
  exact ⟨rfl, Below.refl _ _⟩
theorem check_classes {ok : Nat → Prop} (P : Prg) (hP : NoParts P) (w : World) (hp : PrgL ok w P) (hok : ∀ k, ok k → k < w.heap.size) (hg : Gl w) :
    Calls Tryz.prog 9 #[P.agg] w (Bof w (.agg #[I (checkM P (rmC P) 0).1, I (checkM P (rmC P) 0).2.1, I (checkM P (rmC P) 0).2.2])) :=
  check_gen P (rmC P) 0 w hp hok hg (fun T W k i h hgW _ hk _ hi => rules_classes P hP T W k i h hgW hk hi) (fun T W h _ _ _ => main30_none P T W h hP.main)

theorem pa_parts (N g cap : Nat) (nm : ByteArray) : NoParts (PA N g cap nm) := ⟨rfl, rfl, rfl, rfl, rfl⟩
theorem pa_check (N g cap : Nat) : checkM (PA N g cap nmA) (rmC (PA N g cap nmA)) 0 = (0, 0, 0) := by kernel_rfl
theorem pa_check0 (N g cap : Nat) : checkM (PA N g cap E0) (rmC (PA N g cap E0)) 0 = (1, 0, 21) := by kernel_rfl
theorem pa_full (N g cap : Nat) : fullM (PA N g cap nmA).cls.l 2 = (⟨#[66, 35, 46, 67]⟩, 0) := by kernel_rfl
theorem pa_anc (N g cap : Nat) : ancM (PA N g cap nmA).cls.l 1 = [0] := by
  have h : ancM (PA N g cap nmA).cls.l 1 = ([0] : List Int).mergeSort fun x y => decide (x ≤ y) := by rfl
  rw [h, List.mergeSort_singleton]

theorem awake_any (w : World) (hw : Gl w) : Calls Tryz.prog 8 #[] w fun e w' => e = .returned (.bool true) ∧ Below w.heap.size w w' := by
  refine awake_law Gl (fun w w' h hb => h.below hb h.1) ?_ ?_ ?_ ?_ w hw
  · intro N W hg hs hp
    have := full19_any (PA N (N + 1 + 1 + 1) 3 nmA) 2 W hp (fun k hk => by omega) (by show 3 ≤ 25; omega) (fun k hk => by
      simp only [List.mem_cons, List.not_mem_nil, or_false] at hk
      rcases hk with rfl | rfl | rfl
      · show nmA.size ≤ 100; decide
      · show (⟨#[66]⟩ : ByteArray).size ≤ 100; decide
      · show (⟨#[67]⟩ : ByteArray).size ≤ 100; decide)
    rw [pa_full] at this
    exact this
  · intro N W hg hs hp
    have := check_classes _ (pa_parts N (N + 1 + 1 + 1) 3 nmA) W hp (fun k hk => by omega) hg
    rw [pa_check] at this
    exact this
  · intro N g cap W hg hs hgs hp
    have := check_classes _ (pa_parts N g cap E0) W hp (fun k hk => by rcases hk with hk | rfl <;> omega) hg
    rw [pa_check0] at this
    exact this.mono fun e w' h => ⟨1, 0, 21, by decide, h⟩
  · intro N W hg hs hp
    refine (anc14_any (PA N (N + 1 + 1 + 1) 3 nmA) 1 W hp (fun k hk => by omega)).mono ?_
    rintro e w' ⟨s, h1, h2, h3, h4⟩
    exact ⟨s, h1.trans (pa_anc _ _ _), ⟨_, h2⟩, h3, h4⟩
end Go.Proofs.YtfbaikijnjafbaaGreatDoor
