/- Contracts of wordEnd and lineComment. -/
import Derived.Test.YtcdidmohgcegmaaDoorModel
import Derived.Deep.RegionHeld3
import Derived.StillTailTactics
namespace Go.Proofs.YtcdidmohgcegmaaDoor
open Go.RowKit
attribute [local go_sem ↓ high] builtin_app
section
variable {B g : Nat} {s : ByteArray} {r : Rd} {w : World}

set_option maxHeartbeats 400000 in
theorem wordEnd_any (p : Nat) (hR : RdAt w B g s r) (hp : p ≤ s.size) (hs : s.size ≤ 100000) (hg : Gl w) :
    Calls Tryd.prog 86 #[.pointer (some ⟨g, 0, none⟩), I p] w fun e w' => e = .returned (I (wordEndM s p)) ∧ w = w' := by
  obtain ⟨c0, _⟩ := hR.cells
  clear hR
  go_enter Tryd.func86, Tryd.ntmps86
  go_wp2_with fail
  go_loopg [1] (s.size - p) (fun n v wr => ∃ q : Nat, q ≤ s.size ∧ v = I q ∧ Hid (n = s.size - q) ∧ Hid (wordEndM s q = wordEndM s p) ∧ w = wr)
  case atStart => exact ⟨p, hp, rfl, rfl, rfl, rfl⟩
  case round =>
    obtain ⟨q, hq, rfl, HN, HE, rfl⟩ := hrel
    by_cases hlt : q < s.size
    · by_cases hw : inWordM s[q] = true
      · go_wp2_with (go_at_call 57; refine (inWord_any _ _ hg).mono ?_; rintro e w' ⟨rfl, rfl⟩)
        go_roundg (s.size - (q + 1))
        case measure => have := HN.out; omega
        case rel => exact ⟨q + 1, by omega, by go_num, rfl, by rw [bt_at] at hw; exact (runM_yes hlt hw).symm.trans HE.out, rfl⟩
      · have hw' : inWordM s[q] = false := by simpa using hw
        clear hw
        go_wp2_with (go_at_call 57; refine (inWord_any _ _ hg).mono ?_; rintro e w' ⟨rfl, rfl⟩)
        go_ret
        exact ⟨ret_int (by rw [bt_at] at hw'; rw [← HE.out]; unfold wordEndM; rw [runM_no hw']), rfl⟩
    · have hge : s.size ≤ q := by omega
      clear hlt
      go_wp2_with fail
      go_ret
      exact ⟨ret_int (by rw [← HE.out]; unfold wordEndM; rw [runM_end hge]), rfl⟩

set_option maxHeartbeats 800000 in
theorem lineComment_any (hR : RdAt w B g s r) (hp : r.pos ≤ s.size) (hs : s.size ≤ 100000) :
    Calls Tryd.prog 52 #[.pointer (some ⟨g, 0, none⟩)] w fun e w' => e = .returned (.tuple #[]) ∧ RdAt w' B g s { r with pos := lineEndM s r.pos } ∧ Keep B g w w' := by
  go_enter Tryd.func52, Tryd.ntmps52
  go_wp2_with fail
  go_loopg [] (s.size - r.pos) (fun n wr => ∃ q : Nat, q ≤ s.size ∧ Hid (n = s.size - q) ∧ Hid (lineEndM s q = lineEndM s r.pos) ∧ RdAt wr B g s { r with pos := q } ∧ Keep B g w wr)
  case atStart => exact ⟨r.pos, hp, rfl, rfl, hR, Keep.refl _ _ _⟩
  case round =>
    obtain ⟨q, hq, HN, HE, hRq, hK⟩ := hrel
    obtain ⟨c0, c1, _⟩ := hRq.cells
    have f1 := hRq.frozen 1
    have HR := Lib.hid hRq
    clear hRq hR
    have HP := Lib.hid hp
    clear hp
    by_cases hlt : q < s.size
    · by_cases hw : (s[q].toNat : Int) = 10
      · have hd : (((s[q].toNat : Int)) != 10) = false := by simp [hw]
        have HW := Lib.hid hw
        clear hw
        go_wp2_with fail
        go_quiet (fail)
        go_wp2_with fail
        go_end0
        have e : lineEndM s r.pos = q := by
          rw [← HE.out]
          refine runM_no ?_
          have h10 : bt s q = 10 := by rw [← bt_at s q hlt]; exact UInt8.toNat_inj.1 (by have := HW.out; simp; omega)
          simp [h10]
        exact ⟨rfl, by rw [e]; exact HR.out.drewN _, hK.drewN _⟩
      · have hd : (((s[q].toNat : Int)) != 10) = true := by simp [hw]
        have HW := Lib.hid hw
        clear hw
        go_wp2_with fail
        go_quiet (fail)
        go_wp2_with fail
        go_roundg (s.size - (q + 1))
        case measure => have := HN.out; omega
        case rel =>
          refine ⟨q + 1, by omega, rfl, ?_, (HR.out.drewN _).pos' _, (hK.drewN _).setCell (.inl rfl) _⟩
          refine Eq.trans ?_ HE.out
          refine (runM_yes hlt ?_).symm
          have h10 : bt s q ≠ 10 := by rw [← bt_at s q hlt]; intro h; have := HW.out; rw [h] at this; exact this rfl
          simp [h10]
    · have hge : decide (q < s.size) = false := by simpa using hlt
      have HL := Lib.hid hlt
      clear hlt
      go_wp2_with fail
      go_quiet (fail)
      go_wp2_with fail
      go_end0
      have e : lineEndM s r.pos = q := by rw [← HE.out]; exact runM_end (by have := HL.out; omega)
      exact ⟨rfl, by rw [e]; exact HR.out.drewN _, hK.drewN _⟩
end
end Go.Proofs.YtcdidmohgcegmaaDoor
