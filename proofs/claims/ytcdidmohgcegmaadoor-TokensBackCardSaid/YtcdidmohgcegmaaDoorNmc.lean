/- Contract of number. Conditions: the reader lies at block g, its numbers are small, the listed tables stand. -/
import Derived.Test.YtcdidmohgcegmaaDoorRdc
import Derived.Test.YtcdidmohgcegmaaDoorRdb
import Derived.Deep.Light
import Derived.Lib.Strings
namespace Go.Proofs.YtcdidmohgcegmaaDoor
open Go.RowKit
set_option maxRecDepth 100000
attribute [local go_sem ↓ high] builtin_app
section
variable {B g : Nat} {s : ByteArray} {r : Rd} {w : World}

theorem ext_zero (s : ByteArray) (a b : Nat) (h : 0 < (s.extract a b).size) : (s.extract a b)[0] = bt s a := by
  rw [bt_at _ 0 h]
  unfold bt
  rw [Go.Lib.extract_data]
  rw [ByteArray.size_extract] at h
  have h0 : 0 < b - a := by omega
  simp [List.getD, List.getElem?_drop, h0]
theorem numberM_short {s : ByteArray} {r : Rd} {q : Nat} (h : digEndM s r.pos = q) (hl : (decide (q < s.size) && decide ((bt s q).toNat = 76)) = false) :
    numberM s r = if (decide (1 < (s.extract r.pos q).size) && decide ((bt s r.pos).toNat = 48)) || decide (q < wordEndM s q) then .error ⟨r.start, 27⟩
      else if exceedsM (s.extract r.pos q) gI then .error ⟨r.start, 25⟩ else .ok (putM r 4 (s.extract r.pos q) q) := by
  unfold numberM
  simp only [h, hl, if_false, Bool.false_eq_true]
theorem numberM_long {s : ByteArray} {r : Rd} {q : Nat} (h : digEndM s r.pos = q) (hl : (decide (q < s.size) && decide ((bt s q).toNat = 76)) = true) :
    numberM s r = if (decide (1 < (s.extract r.pos q).size) && decide ((bt s r.pos).toNat = 48)) || decide (q + 1 < wordEndM s (q + 1)) then .error ⟨r.start, 27⟩
      else if exceedsM (s.extract r.pos q) gL then .error ⟨r.start, 25⟩ else .ok (putM r 5 (s.extract r.pos q) (q + 1)) := by
  unfold numberM
  simp only [h, hl, if_true]

set_option maxHeartbeats 8000000 in
theorem number_any (hR : RdAt w B g s r) (hp : r.pos ≤ s.size) (hst : r.start = r.pos) (hs : s.size ≤ 100000) (hl : r.ls ≤ r.pos) (hn : r.list.length ≤ 1000000) (hg : Gl w) (h3 : clsM (bt s r.pos) = 3) (hlt0 : r.pos < s.size) :
    Calls Tryd.prog 66 #[.pointer (some ⟨g, 0, none⟩)] w (Out w B g s (numberM s r)) := by
  generalize hm : numberM s r = res
  obtain ⟨c0, c1, c2, _⟩ := hR.cells
  have HR := Lib.hid hR
  have HM := Lib.hid hm
  have HST := Lib.hid hst
  have H3 := Lib.hid h3
  clear hR hm hst h3
  go_enter Tryd.func66, Tryd.ntmps66
  go_wp2_with fail
  go_loopg [2] (s.size - r.pos) (fun n v wr => ∃ q : Nat, r.pos ≤ q ∧ q ≤ s.size ∧ v = I q ∧ Hid (n = s.size - q) ∧ Hid (digEndM s q = digEndM s r.pos) ∧ w = wr)
  case atStart => exact ⟨r.pos, Nat.le_refl _, hp, rfl, rfl, rfl, rfl⟩
  case round =>
    obtain ⟨q, hpq, hq, rfl, HN, HE, rfl⟩ := hrel
    by_cases hgo : q < s.size ∧ (clsM (bt s q) == 3) = true
    · obtain ⟨hlt, hgo⟩ := hgo
      have hb := bt_at s q hlt
      have t1 : (((clsM (bt s q) : Nat) : Int) == 3) = true := by simp at hgo ⊢; omega
      have HGO := Lib.hid hgo
      clear hgo
      go_wp2_with (go_at_call 22; refine (class_any _ _ hg).mono ?_; rintro e w' ⟨rfl, rfl⟩)
      go_roundg (s.size - (q + 1))
      case measure => have := HN.out; omega
      case rel => exact ⟨q + 1, by omega, by omega, by go_num, rfl, (runM_yes (f := fun i => clsM (bt s i) == 3) hlt HGO.out).symm.trans HE.out, rfl⟩
    · have hend : digEndM s r.pos = q := by
        rw [← HE.out]
        unfold digEndM
        by_cases hlt : q < s.size
        · exact runM_no (by
            cases h : (clsM (bt s q) == 3) with
            | false => rfl
            | true => exact absurd ⟨hlt, h⟩ hgo)
        · exact runM_end (by omega)
      have hq1 : r.pos < q := by
        rcases Nat.lt_or_ge r.pos q with h | h
        · exact h
        · have : q = r.pos := by omega
          subst this
          exact absurd ⟨hlt0, by rw [H3.out]; rfl⟩ hgo
      have HEND := Lib.hid hend
      have hsl : ∀ W : World, (Instr.slice 9 (.string s) (some (.int .i64 (r.pos : Int))) (some (.int .i64 (q : Int))) none).run Tryd.prog W = .ok (.string (s.extract r.pos q)) W := fun W =>
        slice_str Tryd.underlying9 s r.pos q hpq hq W
      have h3 : (decide (q < s.size) = false ∧ (decide (q < s.size) && decide ((bt s q).toNat = 76)) = false) ∨ (∃ h : q < s.size, s[q] = bt s q ∧ (((clsM (bt s q) : Nat) : Int) == 3) = false ∧ (((bt s q).toNat : Int) == 76) = false ∧ (decide (q < s.size) && decide ((bt s q).toNat = 76)) = false) ∨ (∃ h : q < s.size, s[q] = bt s q ∧ (((clsM (bt s q) : Nat) : Int) == 3) = false ∧ (((bt s q).toNat : Int) == 76) = true ∧ (decide (q < s.size) && decide ((bt s q).toNat = 76)) = true) := by
        by_cases hlt : q < s.size
        · have hc : (((clsM (bt s q) : Nat) : Int) == 3) = false := by
            cases h : ((((clsM (bt s q) : Nat) : Int) == 3)) with
            | false => rfl
            | true => exact absurd ⟨hlt, by simp at h ⊢; omega⟩ hgo
          by_cases h76 : (bt s q).toNat = 76
          · exact .inr (.inr ⟨hlt, bt_at s q hlt, hc, by simp [h76], by simp [hlt, h76]⟩)
          · exact .inr (.inl ⟨hlt, bt_at s q hlt, hc, by simp; omega, by simp [h76]⟩)
        · exact .inl ⟨by simpa using hlt, by simp [hlt]⟩
      clear hgo hend
      have hsz : (s.extract r.pos q).size = q - r.pos := by rw [ByteArray.size_extract]; omega
      have hp0 : 0 < (s.extract r.pos q).size := by rw [hsz]; omega
      have hx : (s.extract r.pos q)[0]'hp0 = bt s r.pos := ext_zero s r.pos q hp0
      have HSZ := Lib.hid hsz
      clear hsz
      rcases h3 with ⟨h3, hlong⟩ | ⟨hlt, hb, t1, t2, hlong⟩ | ⟨hlt, hb, t1, t2, hlong⟩
      · have HLONG := Lib.hid hlong
        clear hlong
        have hmr : res = if (decide (1 < q - r.pos) && decide ((bt s r.pos).toNat = 48)) || decide (q < wordEndM s (q)) then .error ⟨r.start, 27⟩
            else if exceedsM (s.extract r.pos q) gI then .error ⟨r.start, 25⟩ else .ok (putM r 4 (s.extract r.pos q) (q)) := by
          rw [← HM.out, numberM_short HEND.out HLONG.out, HSZ.out]
        have HMR := Lib.hid hmr
        clear hmr
        have hw0 := runM_le s (fun i => inWordM (bt s i)) (q) (by omega)
        have hw1 : wordEndM s (q) ≤ s.size := hw0.2
        clear hw0
        by_cases hz1 : 1 < q - r.pos
        · by_cases hz2 : (bt s r.pos).toNat = 48
          · have hres : res = .error ⟨r.start, 27⟩ := by rw [HMR.out]; simp [hz1, hz2]
            subst hres
            have t3 : (((bt s r.pos).toNat : Int) == 48) = true := by simp [hz2]
            have t4 : ((bt s r.pos).toNat : Int) = 48 := by omega
            clear hz2
            go_wp2_with (go_at_call 22; refine (class_any _ _ hg).mono ?_; rintro e w' ⟨rfl, rfl⟩)
            go_quiet (fail)
            go_wp2_with (go_at_call 49; refine (fail_any _ _ _).mono ?_; rintro e w' ⟨rfl, rfl⟩)
            exact ⟨rfl, rfl, (Keep.refl _ _ _).drewN _⟩
          · have t3 : (((bt s r.pos).toNat : Int) == 48) = false := by simp; omega
            have HZ : Hid ((decide (1 < q - r.pos) && decide ((bt s r.pos).toNat = 48)) = false) := Lib.hid (by simp [hz2])
            clear hz2
            by_cases hwe : q < wordEndM s (q)
            · have hres : res = .error ⟨r.start, 27⟩ := by rw [HMR.out, HZ.out]; simp [hwe]
              subst hres
              go_wp2_with (go_at_call 22; refine (class_any _ _ hg).mono ?_; rintro e w' ⟨rfl, rfl⟩)
              go_quiet (fail)
              go_wp2_with (first | (go_at_call 86; refine (wordEnd_any (q) (HR.out.drewN _) (by omega) hs (hg.drewN _)).mono ?_; rintro e w' ⟨rfl, rfl⟩) | (go_at_call 49; refine (fail_any _ _ _).mono ?_; rintro e w' ⟨rfl, rfl⟩))
              exact ⟨rfl, rfl, (Keep.refl _ _ _).drewN _⟩
            · by_cases hxe : exceedsM (s.extract r.pos q) gI = true
              · have hres : res = .error ⟨r.start, 25⟩ := by rw [HMR.out, HZ.out]; simp [hwe, hxe]
                subst hres
                have HXE := Lib.hid hxe
                go_wp2_with (go_at_call 22; refine (class_any _ _ hg).mono ?_; rintro e w' ⟨rfl, rfl⟩)
                go_quiet (fail)
                go_wp2_with (first | (go_at_call 86; refine (wordEnd_any (q) (HR.out.drewN _) (by omega) hs (hg.drewN _)).mono ?_; rintro e w' ⟨rfl, rfl⟩) | (go_at_call 90; refine (exceeds_any _ gI _).mono ?_; rintro e w' ⟨rfl, rfl⟩) | (go_at_call 49; refine (fail_any _ _ _).mono ?_; rintro e w' ⟨rfl, rfl⟩))
                exact ⟨rfl, rfl, (Keep.refl _ _ _).drewN _⟩
              · have hxe' : exceedsM (s.extract r.pos q) gI = false := by simpa using hxe
                have hres : res = .ok (putM r 4 (s.extract r.pos q) (q)) := by rw [HMR.out, HZ.out]; simp [hwe, hxe']
                subst hres
                clear hxe
                go_wp2_with (go_at_call 22; refine (class_any _ _ hg).mono ?_; rintro e w' ⟨rfl, rfl⟩)
                go_quiet (fail)
                go_wp2_with (first | (go_at_call 86; refine (wordEnd_any (q) (HR.out.drewN _) (by omega) hs (hg.drewN _)).mono ?_; rintro e w' ⟨rfl, rfl⟩) | (go_at_call 90; refine (exceeds_any _ gI _).mono ?_; rintro e w' ⟨rfl, rfl⟩))
                refine (put_any _ _ (q) (HR.out.drewN _) (by rw [HST.out]; omega) (by rw [HST.out]; exact hl) hn).mono ?_
                rintro e w3 ⟨rfl, h5, h6⟩
                go_wp2_with fail
                go_end0
                exact ⟨rfl, h5, ((Keep.refl _ _ _).drewN _).trans h6⟩
        · have HZ : Hid ((decide (1 < q - r.pos) && decide ((bt s r.pos).toNat = 48)) = false) := Lib.hid (by simp [hz1])
          by_cases hwe : q < wordEndM s (q)
          · have hres : res = .error ⟨r.start, 27⟩ := by rw [HMR.out, HZ.out]; simp [hwe]
            subst hres
            go_wp2_with (go_at_call 22; refine (class_any _ _ hg).mono ?_; rintro e w' ⟨rfl, rfl⟩)
            go_quiet (fail)
            go_wp2_with (first | (go_at_call 86; refine (wordEnd_any (q) (HR.out.drewN _) (by omega) hs (hg.drewN _)).mono ?_; rintro e w' ⟨rfl, rfl⟩) | (go_at_call 49; refine (fail_any _ _ _).mono ?_; rintro e w' ⟨rfl, rfl⟩))
            exact ⟨rfl, rfl, (Keep.refl _ _ _).drewN _⟩
          · by_cases hxe : exceedsM (s.extract r.pos q) gI = true
            · have hres : res = .error ⟨r.start, 25⟩ := by rw [HMR.out, HZ.out]; simp [hwe, hxe]
              subst hres
              have HXE := Lib.hid hxe
              go_wp2_with (go_at_call 22; refine (class_any _ _ hg).mono ?_; rintro e w' ⟨rfl, rfl⟩)
              go_quiet (fail)
              go_wp2_with (first | (go_at_call 86; refine (wordEnd_any (q) (HR.out.drewN _) (by omega) hs (hg.drewN _)).mono ?_; rintro e w' ⟨rfl, rfl⟩) | (go_at_call 90; refine (exceeds_any _ gI _).mono ?_; rintro e w' ⟨rfl, rfl⟩) | (go_at_call 49; refine (fail_any _ _ _).mono ?_; rintro e w' ⟨rfl, rfl⟩))
              exact ⟨rfl, rfl, (Keep.refl _ _ _).drewN _⟩
            · have hxe' : exceedsM (s.extract r.pos q) gI = false := by simpa using hxe
              have hres : res = .ok (putM r 4 (s.extract r.pos q) (q)) := by rw [HMR.out, HZ.out]; simp [hwe, hxe']
              subst hres
              clear hxe
              go_wp2_with (go_at_call 22; refine (class_any _ _ hg).mono ?_; rintro e w' ⟨rfl, rfl⟩)
              go_quiet (fail)
              go_wp2_with (first | (go_at_call 86; refine (wordEnd_any (q) (HR.out.drewN _) (by omega) hs (hg.drewN _)).mono ?_; rintro e w' ⟨rfl, rfl⟩) | (go_at_call 90; refine (exceeds_any _ gI _).mono ?_; rintro e w' ⟨rfl, rfl⟩))
              refine (put_any _ _ (q) (HR.out.drewN _) (by rw [HST.out]; omega) (by rw [HST.out]; exact hl) hn).mono ?_
              rintro e w3 ⟨rfl, h5, h6⟩
              go_wp2_with fail
              go_end0
              exact ⟨rfl, h5, ((Keep.refl _ _ _).drewN _).trans h6⟩

      · have HLONG := Lib.hid hlong
        clear hlong
        have hmr : res = if (decide (1 < q - r.pos) && decide ((bt s r.pos).toNat = 48)) || decide (q < wordEndM s (q)) then .error ⟨r.start, 27⟩
            else if exceedsM (s.extract r.pos q) gI then .error ⟨r.start, 25⟩ else .ok (putM r 4 (s.extract r.pos q) (q)) := by
          rw [← HM.out, numberM_short HEND.out HLONG.out, HSZ.out]
        have HMR := Lib.hid hmr
        clear hmr
        have hw0 := runM_le s (fun i => inWordM (bt s i)) (q) (by omega)
        have hw1 : wordEndM s (q) ≤ s.size := hw0.2
        clear hw0
        by_cases hz1 : 1 < q - r.pos
        · by_cases hz2 : (bt s r.pos).toNat = 48
          · have hres : res = .error ⟨r.start, 27⟩ := by rw [HMR.out]; simp [hz1, hz2]
            subst hres
            have t3 : (((bt s r.pos).toNat : Int) == 48) = true := by simp [hz2]
            have t4 : ((bt s r.pos).toNat : Int) = 48 := by omega
            clear hz2
            go_wp2_with (go_at_call 22; refine (class_any _ _ hg).mono ?_; rintro e w' ⟨rfl, rfl⟩)
            go_quiet (fail)
            go_wp2_with (go_at_call 49; refine (fail_any _ _ _).mono ?_; rintro e w' ⟨rfl, rfl⟩)
            exact ⟨rfl, rfl, (Keep.refl _ _ _).drewN _⟩
          · have t3 : (((bt s r.pos).toNat : Int) == 48) = false := by simp; omega
            have HZ : Hid ((decide (1 < q - r.pos) && decide ((bt s r.pos).toNat = 48)) = false) := Lib.hid (by simp [hz2])
            clear hz2
            by_cases hwe : q < wordEndM s (q)
            · have hres : res = .error ⟨r.start, 27⟩ := by rw [HMR.out, HZ.out]; simp [hwe]
              subst hres
              go_wp2_with (go_at_call 22; refine (class_any _ _ hg).mono ?_; rintro e w' ⟨rfl, rfl⟩)
              go_quiet (fail)
              go_wp2_with (first | (go_at_call 86; refine (wordEnd_any (q) (HR.out.drewN _) (by omega) hs (hg.drewN _)).mono ?_; rintro e w' ⟨rfl, rfl⟩) | (go_at_call 49; refine (fail_any _ _ _).mono ?_; rintro e w' ⟨rfl, rfl⟩))
              exact ⟨rfl, rfl, (Keep.refl _ _ _).drewN _⟩
            · by_cases hxe : exceedsM (s.extract r.pos q) gI = true
              · have hres : res = .error ⟨r.start, 25⟩ := by rw [HMR.out, HZ.out]; simp [hwe, hxe]
                subst hres
                have HXE := Lib.hid hxe
                go_wp2_with (go_at_call 22; refine (class_any _ _ hg).mono ?_; rintro e w' ⟨rfl, rfl⟩)
                go_quiet (fail)
                go_wp2_with (first | (go_at_call 86; refine (wordEnd_any (q) (HR.out.drewN _) (by omega) hs (hg.drewN _)).mono ?_; rintro e w' ⟨rfl, rfl⟩) | (go_at_call 90; refine (exceeds_any _ gI _).mono ?_; rintro e w' ⟨rfl, rfl⟩) | (go_at_call 49; refine (fail_any _ _ _).mono ?_; rintro e w' ⟨rfl, rfl⟩))
                exact ⟨rfl, rfl, (Keep.refl _ _ _).drewN _⟩
              · have hxe' : exceedsM (s.extract r.pos q) gI = false := by simpa using hxe
                have hres : res = .ok (putM r 4 (s.extract r.pos q) (q)) := by rw [HMR.out, HZ.out]; simp [hwe, hxe']
                subst hres
                clear hxe
                go_wp2_with (go_at_call 22; refine (class_any _ _ hg).mono ?_; rintro e w' ⟨rfl, rfl⟩)
                go_quiet (fail)
                go_wp2_with (first | (go_at_call 86; refine (wordEnd_any (q) (HR.out.drewN _) (by omega) hs (hg.drewN _)).mono ?_; rintro e w' ⟨rfl, rfl⟩) | (go_at_call 90; refine (exceeds_any _ gI _).mono ?_; rintro e w' ⟨rfl, rfl⟩))
                refine (put_any _ _ (q) (HR.out.drewN _) (by rw [HST.out]; omega) (by rw [HST.out]; exact hl) hn).mono ?_
                rintro e w3 ⟨rfl, h5, h6⟩
                go_wp2_with fail
                go_end0
                exact ⟨rfl, h5, ((Keep.refl _ _ _).drewN _).trans h6⟩
        · have HZ : Hid ((decide (1 < q - r.pos) && decide ((bt s r.pos).toNat = 48)) = false) := Lib.hid (by simp [hz1])
          by_cases hwe : q < wordEndM s (q)
          · have hres : res = .error ⟨r.start, 27⟩ := by rw [HMR.out, HZ.out]; simp [hwe]
            subst hres
            go_wp2_with (go_at_call 22; refine (class_any _ _ hg).mono ?_; rintro e w' ⟨rfl, rfl⟩)
            go_quiet (fail)
            go_wp2_with (first | (go_at_call 86; refine (wordEnd_any (q) (HR.out.drewN _) (by omega) hs (hg.drewN _)).mono ?_; rintro e w' ⟨rfl, rfl⟩) | (go_at_call 49; refine (fail_any _ _ _).mono ?_; rintro e w' ⟨rfl, rfl⟩))
            exact ⟨rfl, rfl, (Keep.refl _ _ _).drewN _⟩
          · by_cases hxe : exceedsM (s.extract r.pos q) gI = true
            · have hres : res = .error ⟨r.start, 25⟩ := by rw [HMR.out, HZ.out]; simp [hwe, hxe]
              subst hres
              have HXE := Lib.hid hxe
              go_wp2_with (go_at_call 22; refine (class_any _ _ hg).mono ?_; rintro e w' ⟨rfl, rfl⟩)
              go_quiet (fail)
              go_wp2_with (first | (go_at_call 86; refine (wordEnd_any (q) (HR.out.drewN _) (by omega) hs (hg.drewN _)).mono ?_; rintro e w' ⟨rfl, rfl⟩) | (go_at_call 90; refine (exceeds_any _ gI _).mono ?_; rintro e w' ⟨rfl, rfl⟩) | (go_at_call 49; refine (fail_any _ _ _).mono ?_; rintro e w' ⟨rfl, rfl⟩))
              exact ⟨rfl, rfl, (Keep.refl _ _ _).drewN _⟩
            · have hxe' : exceedsM (s.extract r.pos q) gI = false := by simpa using hxe
              have hres : res = .ok (putM r 4 (s.extract r.pos q) (q)) := by rw [HMR.out, HZ.out]; simp [hwe, hxe']
              subst hres
              clear hxe
              go_wp2_with (go_at_call 22; refine (class_any _ _ hg).mono ?_; rintro e w' ⟨rfl, rfl⟩)
              go_quiet (fail)
              go_wp2_with (first | (go_at_call 86; refine (wordEnd_any (q) (HR.out.drewN _) (by omega) hs (hg.drewN _)).mono ?_; rintro e w' ⟨rfl, rfl⟩) | (go_at_call 90; refine (exceeds_any _ gI _).mono ?_; rintro e w' ⟨rfl, rfl⟩))
              refine (put_any _ _ (q) (HR.out.drewN _) (by rw [HST.out]; omega) (by rw [HST.out]; exact hl) hn).mono ?_
              rintro e w3 ⟨rfl, h5, h6⟩
              go_wp2_with fail
              go_end0
              exact ⟨rfl, h5, ((Keep.refl _ _ _).drewN _).trans h6⟩

      · have HLONG := Lib.hid hlong
        clear hlong
        have hmr : res = if (decide (1 < q - r.pos) && decide ((bt s r.pos).toNat = 48)) || decide (q + 1 < wordEndM s (q + 1)) then .error ⟨r.start, 27⟩
            else if exceedsM (s.extract r.pos q) gL then .error ⟨r.start, 25⟩ else .ok (putM r 5 (s.extract r.pos q) (q + 1)) := by
          rw [← HM.out, numberM_long HEND.out HLONG.out, HSZ.out]
        have HMR := Lib.hid hmr
        clear hmr
        have hw0 := runM_le s (fun i => inWordM (bt s i)) (q + 1) (by omega)
        have hw1 : wordEndM s (q + 1) ≤ s.size := hw0.2
        clear hw0
        by_cases hz1 : 1 < q - r.pos
        · by_cases hz2 : (bt s r.pos).toNat = 48
          · have hres : res = .error ⟨r.start, 27⟩ := by rw [HMR.out]; simp [hz1, hz2]
            subst hres
            have t3 : (((bt s r.pos).toNat : Int) == 48) = true := by simp [hz2]
            have t4 : ((bt s r.pos).toNat : Int) = 48 := by omega
            clear hz2
            go_wp2_with (go_at_call 22; refine (class_any _ _ hg).mono ?_; rintro e w' ⟨rfl, rfl⟩)
            go_quiet (fail)
            go_wp2_with (go_at_call 49; refine (fail_any _ _ _).mono ?_; rintro e w' ⟨rfl, rfl⟩)
            exact ⟨rfl, rfl, (Keep.refl _ _ _).drewN _⟩
          · have t3 : (((bt s r.pos).toNat : Int) == 48) = false := by simp; omega
            have HZ : Hid ((decide (1 < q - r.pos) && decide ((bt s r.pos).toNat = 48)) = false) := Lib.hid (by simp [hz2])
            clear hz2
            by_cases hwe : q + 1 < wordEndM s (q + 1)
            · have hres : res = .error ⟨r.start, 27⟩ := by rw [HMR.out, HZ.out]; simp [hwe]
              subst hres
              go_wp2_with (go_at_call 22; refine (class_any _ _ hg).mono ?_; rintro e w' ⟨rfl, rfl⟩)
              go_quiet (fail)
              go_wp2_with (first | (go_at_call 86; refine (wordEnd_any (q + 1) (HR.out.drewN _) (by omega) hs (hg.drewN _)).mono ?_; rintro e w' ⟨rfl, rfl⟩) | (go_at_call 49; refine (fail_any _ _ _).mono ?_; rintro e w' ⟨rfl, rfl⟩))
              exact ⟨rfl, rfl, (Keep.refl _ _ _).drewN _⟩
            · by_cases hxe : exceedsM (s.extract r.pos q) gL = true
              · have hres : res = .error ⟨r.start, 25⟩ := by rw [HMR.out, HZ.out]; simp [hwe, hxe]
                subst hres
                have HXE := Lib.hid hxe
                go_wp2_with (go_at_call 22; refine (class_any _ _ hg).mono ?_; rintro e w' ⟨rfl, rfl⟩)
                go_quiet (fail)
                go_wp2_with (first | (go_at_call 86; refine (wordEnd_any (q + 1) (HR.out.drewN _) (by omega) hs (hg.drewN _)).mono ?_; rintro e w' ⟨rfl, rfl⟩) | (go_at_call 90; refine (exceeds_any _ gL _).mono ?_; rintro e w' ⟨rfl, rfl⟩) | (go_at_call 49; refine (fail_any _ _ _).mono ?_; rintro e w' ⟨rfl, rfl⟩))
                exact ⟨rfl, rfl, (Keep.refl _ _ _).drewN _⟩
              · have hxe' : exceedsM (s.extract r.pos q) gL = false := by simpa using hxe
                have hres : res = .ok (putM r 5 (s.extract r.pos q) (q + 1)) := by rw [HMR.out, HZ.out]; simp [hwe, hxe']
                subst hres
                clear hxe
                go_wp2_with (go_at_call 22; refine (class_any _ _ hg).mono ?_; rintro e w' ⟨rfl, rfl⟩)
                go_quiet (fail)
                go_wp2_with (first | (go_at_call 86; refine (wordEnd_any (q + 1) (HR.out.drewN _) (by omega) hs (hg.drewN _)).mono ?_; rintro e w' ⟨rfl, rfl⟩) | (go_at_call 90; refine (exceeds_any _ gL _).mono ?_; rintro e w' ⟨rfl, rfl⟩))
                refine (put_any _ _ (q + 1) (HR.out.drewN _) (by rw [HST.out]; omega) (by rw [HST.out]; exact hl) hn).mono ?_
                rintro e w3 ⟨rfl, h5, h6⟩
                go_wp2_with fail
                go_end0
                exact ⟨rfl, h5, ((Keep.refl _ _ _).drewN _).trans h6⟩
        · have HZ : Hid ((decide (1 < q - r.pos) && decide ((bt s r.pos).toNat = 48)) = false) := Lib.hid (by simp [hz1])
          by_cases hwe : q + 1 < wordEndM s (q + 1)
          · have hres : res = .error ⟨r.start, 27⟩ := by rw [HMR.out, HZ.out]; simp [hwe]
            subst hres
            go_wp2_with (go_at_call 22; refine (class_any _ _ hg).mono ?_; rintro e w' ⟨rfl, rfl⟩)
            go_quiet (fail)
            go_wp2_with (first | (go_at_call 86; refine (wordEnd_any (q + 1) (HR.out.drewN _) (by omega) hs (hg.drewN _)).mono ?_; rintro e w' ⟨rfl, rfl⟩) | (go_at_call 49; refine (fail_any _ _ _).mono ?_; rintro e w' ⟨rfl, rfl⟩))
            exact ⟨rfl, rfl, (Keep.refl _ _ _).drewN _⟩
          · by_cases hxe : exceedsM (s.extract r.pos q) gL = true
            · have hres : res = .error ⟨r.start, 25⟩ := by rw [HMR.out, HZ.out]; simp [hwe, hxe]
              subst hres
              have HXE := Lib.hid hxe
              go_wp2_with (go_at_call 22; refine (class_any _ _ hg).mono ?_; rintro e w' ⟨rfl, rfl⟩)
              go_quiet (fail)
              go_wp2_with (first | (go_at_call 86; refine (wordEnd_any (q + 1) (HR.out.drewN _) (by omega) hs (hg.drewN _)).mono ?_; rintro e w' ⟨rfl, rfl⟩) | (go_at_call 90; refine (exceeds_any _ gL _).mono ?_; rintro e w' ⟨rfl, rfl⟩) | (go_at_call 49; refine (fail_any _ _ _).mono ?_; rintro e w' ⟨rfl, rfl⟩))
              exact ⟨rfl, rfl, (Keep.refl _ _ _).drewN _⟩
            · have hxe' : exceedsM (s.extract r.pos q) gL = false := by simpa using hxe
              have hres : res = .ok (putM r 5 (s.extract r.pos q) (q + 1)) := by rw [HMR.out, HZ.out]; simp [hwe, hxe']
              subst hres
              clear hxe
              go_wp2_with (go_at_call 22; refine (class_any _ _ hg).mono ?_; rintro e w' ⟨rfl, rfl⟩)
              go_quiet (fail)
              go_wp2_with (first | (go_at_call 86; refine (wordEnd_any (q + 1) (HR.out.drewN _) (by omega) hs (hg.drewN _)).mono ?_; rintro e w' ⟨rfl, rfl⟩) | (go_at_call 90; refine (exceeds_any _ gL _).mono ?_; rintro e w' ⟨rfl, rfl⟩))
              refine (put_any _ _ (q + 1) (HR.out.drewN _) (by rw [HST.out]; omega) (by rw [HST.out]; exact hl) hn).mono ?_
              rintro e w3 ⟨rfl, h5, h6⟩
              go_wp2_with fail
              go_end0
              exact ⟨rfl, h5, ((Keep.refl _ _ _).drewN _).trans h6⟩

end
end Go.Proofs.YtcdidmohgcegmaaDoor
