/- Contracts of number and operator. Conditions: the reader lies at block g, its numbers are small, the listed tables stand. -/
import Derived.Test.YtcdidmohgcegmaaDoorRdc
import Derived.Test.YtcdidmohgcegmaaDoorRdb
import Derived.Deep.Light
namespace Go.Proofs.YtcdidmohgcegmaaDoor
open Go.RowKit
set_option maxRecDepth 100000
attribute [local go_sem ↓ high] builtin_app
section
variable {B g : Nat} {s : ByteArray} {r : Rd} {w : World}

set_option maxHeartbeats 1600000 in
theorem operator_any (hR : RdAt w B g s r) (hp : r.pos ≤ s.size) (hst : r.start = r.pos) (hs : s.size ≤ 100000) (hl : r.ls ≤ r.pos) (hn : r.list.length ≤ 1000000) (ho : r.opn.length ≤ 64) (hg : Gl w) :
    Calls Tryd.prog 67 #[.pointer (some ⟨g, 0, none⟩)] w (Out w B g s (operatorM s r)) := by
  generalize hm : operatorM s r = res
  obtain ⟨c0, c1, _⟩ := hR.cells
  have HR := Lib.hid hR
  have HM := Lib.hid hm
  have HST := Lib.hid hst
  clear hR hm hst
  have hle := runM_le s (fun i => clsM (bt s i) == 4 && !bcM (s.extract i s.size)) r.pos hp
  have HLE : Hid (r.pos ≤ opEndM s r.pos ∧ opEndM s r.pos ≤ s.size) := hle
  clear hle
  go_enter Tryd.func67, Tryd.ntmps67
  go_wp2_with fail
  go_loopg [2] (s.size - r.pos) (fun n v wr => ∃ q : Nat, r.pos ≤ q ∧ q ≤ s.size ∧ v = I q ∧ Hid (n = s.size - q) ∧ Hid (opEndM s q = opEndM s r.pos) ∧ w = wr)
  case atStart => exact ⟨r.pos, Nat.le_refl _, hp, rfl, rfl, rfl, rfl⟩
  case round =>
    obtain ⟨q, hpq, hq, rfl, HN, HE, rfl⟩ := hrel
    by_cases hgo : q < s.size ∧ (clsM (bt s q) == 4 && !bcM (s.extract q s.size)) = true
    · obtain ⟨hlt, hgo⟩ := hgo
      have hb := bt_at s q hlt
      have t1 : (((clsM (bt s q) : Nat) : Int) == 4) = true := by simp at hgo ⊢; omega
      have t2 : bcM (s.extract q s.size) = false := by simp at hgo; exact hgo.2
      have HGO := Lib.hid hgo
      clear hgo
      go_wp2_with (first | (go_at_call 22; refine (class_any _ _ hg).mono ?_; rintro e w' ⟨rfl, rfl⟩) | (go_at_call 92; refine (bc_any _ _).mono ?_; rintro e w' ⟨rfl, rfl⟩))
      go_roundg (s.size - (q + 1))
      case measure => have := HN.out; omega
      case rel => exact ⟨q + 1, by omega, by omega, by go_num, rfl, (runM_yes (f := fun i => clsM (bt s i) == 4 && !bcM (s.extract i s.size)) hlt HGO.out).symm.trans HE.out, rfl⟩
    · have hend : opEndM s r.pos = q := by
        rw [← HE.out]
        unfold opEndM
        by_cases hlt : q < s.size
        · exact runM_no (by
            cases h : (clsM (bt s q) == 4 && !bcM (s.extract q s.size)) with
            | false => rfl
            | true => exact absurd ⟨hlt, h⟩ hgo)
        · exact runM_end (by omega)
      have h3 : (decide (q < s.size) = false) ∨ (∃ h : q < s.size, s[q] = bt s q ∧ (((clsM (bt s q) : Nat) : Int) == 4) = false) ∨ (∃ h : q < s.size, s[q] = bt s q ∧ (((clsM (bt s q) : Nat) : Int) == 4) = true ∧ bcM (s.extract q s.size) = true) := by
        by_cases hlt : q < s.size
        · by_cases h4 : clsM (bt s q) = 4
          · refine .inr (.inr ⟨hlt, bt_at s q hlt, by simp [h4], ?_⟩)
            cases h : bcM (s.extract q s.size) with
            | true => rfl
            | false => exact absurd ⟨hlt, by simp [h4, h]⟩ hgo
          · exact .inr (.inl ⟨hlt, bt_at s q hlt, by simp; omega⟩)
        · exact .inl (by simpa using hlt)
      have HEND := Lib.hid hend
      clear hgo hend
      have hsl : ∀ W : World, (Instr.slice 9 (.string s) (some (.int .i64 (r.pos : Int))) (some (.int .i64 (q : Int))) none).run Tryd.prog W = .ok (.string (s.extract r.pos q)) W := fun W =>
        slice_str Tryd.underlying9 s r.pos q hpq hq W
      have hmres : res = if signMarkM (s.extract r.pos q) then putMarkM r (s.extract r.pos q) else putNamedM s r 2 q := by
        rw [← HM.out]; unfold operatorM; rw [HEND.out]
      have hsz : (s.extract r.pos q).size = q - r.pos := by rw [ByteArray.size_extract]; omega
      have HSZ := Lib.hid hsz
      clear hsz
      by_cases hsm : signMarkM (s.extract r.pos q) = true
      · rw [if_pos hsm] at hmres
        have HMR := Lib.hid hmres
        clear hmres
        rcases h3 with h3 | ⟨hlt, hb, t1⟩ | ⟨hlt, hb, t1, t2⟩
        all_goals
          go_wp2_with (first | (go_at_call 22; refine (class_any _ _ hg).mono ?_; rintro e w' ⟨rfl, rfl⟩) | (go_at_call 92; refine (bc_any _ _).mono ?_; rintro e w' ⟨rfl, rfl⟩))
          go_quiet (fail)
          go_wp2_with (go_at_call 93; refine (signMark_any _ _).mono ?_; rintro e w' ⟨rfl, rfl⟩)
          refine (putMark_any _ (HR.out.drewN _) (by rw [HST.out, HSZ.out]; omega) (by rw [HST.out]; exact hl) hn ho).mono ?_
          rintro e w2 h
          rw [← HMR.out] at h
          cases res with
          | error f =>
            obtain ⟨rfl, h4⟩ := h
            go_wp2_with fail
            exact ⟨rfl, rfl, ((Keep.refl _ _ _).drewN _).trans h4⟩
          | ok r' =>
            obtain ⟨rfl, h3, h4⟩ := h
            go_wp2_with fail
            first | go_end0 | refine bodyPost_ret (results_none rfl _ _ _) rfl ?_
            exact ⟨rfl, h3, ((Keep.refl _ _ _).drewN _).trans h4⟩
      · rw [if_neg hsm] at hmres
        have hsm' : signMarkM (s.extract r.pos q) = false := by simpa using hsm
        have HMR := Lib.hid hmres
        clear hmres hsm
        rcases h3 with h3 | ⟨hlt, hb, t1⟩ | ⟨hlt, hb, t1, t2⟩
        all_goals
          go_wp2_with (first | (go_at_call 22; refine (class_any _ _ hg).mono ?_; rintro e w' ⟨rfl, rfl⟩) | (go_at_call 92; refine (bc_any _ _).mono ?_; rintro e w' ⟨rfl, rfl⟩))
          go_quiet (fail)
          go_wp2_with (go_at_call 93; refine (signMark_any _ _).mono ?_; rintro e w' ⟨rfl, rfl⟩)
          refine (putNamed_any 2 _ (HR.out.drewN _) (by rw [HST.out]; exact hpq) hq hs (by rw [HST.out]; exact hl) hn).mono ?_
          rintro e w2 h
          rw [← HMR.out] at h
          cases res with
          | error f =>
            obtain ⟨rfl, h4⟩ := h
            go_wp2_with fail
            exact ⟨rfl, rfl, ((Keep.refl _ _ _).drewN _).trans h4⟩
          | ok r' =>
            obtain ⟨rfl, h3, h4⟩ := h
            go_wp2_with fail
            first | go_end0 | refine bodyPost_ret (results_none rfl _ _ _) rfl ?_
            exact ⟨rfl, h3, ((Keep.refl _ _ _).drewN _).trans h4⟩

end
end Go.Proofs.YtcdidmohgcegmaaDoor
