/- within of package symbols: whether all of a list are in another one. Conditions: what the theorem names. -/
import Derived.Test.YtfbaikijnjafbaaGreatDoorSc
namespace Go.Proofs.YtfbaikijnjafbaaGreatDoor
set_option linter.unusedSimpArgs false
set_option linter.unusedVariables false
open Go.RowKit Go.Maps
set_option maxRecDepth 100000

def withinB (l o : List Int) : Bool := l.all o.contains
theorem contains_rev (l : List Int) (x : Int) : l.reverse.contains x = l.contains x := by
  rw [Bool.eq_iff_iff, List.contains_iff_mem, List.contains_iff_mem, List.mem_reverse]
theorem take_rev (l : List Int) (i : Nat) (h : i < l.length) : l[i] :: (l.take i).reverse = (l.take (i + 1)).reverse := by
  rw [List.take_add_one, List.getElem?_eq_getElem h, Option.toList_some, List.reverse_append]
  rfl
set_option maxHeartbeats 800000 in
theorem within_any {ok : Nat → Prop} (a : Option Addr) (cap : Nat) (l : List Int) (a2 : Option Addr) (cap2 : Nat) (l2 : List Int) (w : World) (hs : IntsL ok w ⟨a, cap, l⟩) (hs2 : IntsL ok w ⟨a2, cap2, l2⟩) (hok : ∀ k, ok k → k < w.heap.size) :
    Calls Tryz.prog 101 #[.slice a l.length cap, .slice a2 l2.length cap2] w (Bof w (.bool (withinB l l2))) := by
  have hl : l.length ≤ 140737488355328 := by
    have h1 := hs.1.1; have h2 := hs.1.2.1
    dsimp only at h1 h2
    omega
  have hl2 : l2.length ≤ 140737488355328 := by
    have h1 := hs2.1.1; have h2 := hs2.1.2.1
    dsimp only at h1 h2
    omega
  unfold Bof
  generalize hres : withinB l l2 = res
  have HR := Lib.hid hres
  have HS := Lib.hid hs
  have HL := Lib.hid hl
  have HT := Lib.hid hs2
  have HL2 := Lib.hid hl2
  have HO := Lib.hid hok
  have HM := Lib.hid (set_made w 3)
  have HB := Lib.hid ((Below.refl w.heap.size w).alloc (Nat.le_refl _) (.map #[] 0))
  clear hs hl hres hok hs2 hl2
  have hmm := @run_makeMap Tryz.prog
  go_enter Tryz.func101, Tryz.ntmps101
  go_wp2_with fail
  go_loopg [13] (l2.length + 1) (fun n v wr => ∃ i : Nat, i ≤ l2.length ∧ v = .int .i64 i ∧ Hid (n = l2.length + 1 - i) ∧ Hid (SetAt wr 3 w.heap.size i (lits (l2.take i).reverse)) ∧ Hid (Below w.heap.size w wr))
  case atStart => exact ⟨0, by omega, rfl, rfl, HM.out, HB.out⟩
  case round =>
    obtain ⟨i, hi, rfl, HN, HM, HB⟩ := hrel
    by_cases hlt : i < l2.length
    · have d2 : ((i : Int) < (l2.length : Int)) := by omega
      obtain ⟨b, o, ha, hok, hcs⟩ := sl_at HT.out.1 (by show 0 < l2.length; omega)
      dsimp only at ha
      subst ha
      have hx : wf l2[i] := HT.out.2 _ (List.getElem_mem hlt)
      have ht : wr.cell? ⟨b, o + i, none⟩ = some (I l2[i]) := by have := ((hcs i hlt).same (HB.out.block b (HO.out b hok))) 0 (by simp); simpa using this
      have HE := Lib.hid (take_rev l2 i hlt)
      clear hcs hok
      generalize l2[i] = y at *
      obtain ⟨w2, hst, hs2, hg2⟩ := HM.out.storeI hx (by have := HL2.out; unfold maxLen; omega)
      rw [HE.out] at hs2
      have HS2 := Lib.hid hs2
      have HB2 := Lib.hid (HB.out.grown hg2 HB.out.size (fun k e => by cases e; exact Nat.le_refl _))
      clear hs2 hg2 hx
      go_wp2_with fail
      have := HL2.out
      go_roundg (l2.length + 1 - (i + 1))
      case measure => have := HN.out; omega
      case rel => exact ⟨i + 1, by omega, by first | go_num | (rw [IntWalk.wrap64_in _ (by omega)]; go_num), rfl, HS2, HB2⟩
    · obtain rfl : i = l2.length := by omega
      have HM2 := Lib.hid HM.out
      go_wp2_with fail
      go_loopg [22] (l.length + 1) (fun n v wx => ∃ i : Nat, i ≤ l.length ∧ v = .int .i64 i ∧ Hid (n = l.length + 1 - i) ∧ Hid (withinB (l.drop i) l2 = res) ∧ wx = wr)
      case atStart => exact ⟨0, by omega, rfl, rfl, HR.out, rfl⟩
      case round =>
        obtain ⟨i, hi, rfl, HN, HD, rfl⟩ := hrel
        by_cases hlt : i < l.length
        · have d2 : ((i : Int) < (l.length : Int)) := by omega
          obtain ⟨b, o, ha, hok, hcs⟩ := sl_at HS.out.1 (by show 0 < l.length; omega)
          dsimp only at ha
          subst ha
          have hx : wf l[i] := HS.out.2 _ (List.getElem_mem hlt)
          have ht : wr.cell? ⟨b, o + i, none⟩ = some (I l[i]) := by have := ((hcs i hlt).same (HB.out.block b (HO.out b hok))) 0 (by simp); simpa using this
          have HD2 : Hid ((l2.contains l[i] && withinB (l.drop (i + 1)) l2) = res) := by have := HD.out; rw [List.drop_eq_getElem_cons hlt] at this; exact this
          clear hcs hok HD
          generalize l[i] = y at *
          have hlook := HM2.out.lookI hx
          rw [List.take_length, contains_rev] at hlook
          cases e1 : l2.contains y with
          | false =>
            obtain rfl : false = res := by have := HD2.out; rw [e1] at this; exact this
            rw [e1] at hlook
            go_wp2_with fail
            go_ret
            exact ⟨rfl, HB.out⟩
          | true =>
            have HD3 : Hid (withinB (l.drop (i + 1)) l2 = res) := by have := HD2.out; rw [e1] at this; exact this
            clear HD2
            rw [e1] at hlook
            go_wp2_with fail
            have := HL.out
            go_roundg (l.length + 1 - (i + 1))
            case measure => have := HN.out; omega
            case rel => exact ⟨i + 1, by omega, by first | go_num | (rw [IntWalk.wrap64_in _ (by omega)]; go_num), rfl, HD3, rfl⟩
        · obtain rfl : i = l.length := by omega
          obtain rfl : true = res := by have := HD.out; rw [List.drop_length] at this; exact this
          go_wp2_with fail
          go_ret
          exact ⟨rfl, HB.out⟩
end Go.Proofs.YtfbaikijnjafbaaGreatDoor
