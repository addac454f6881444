/- Contracts of word, scanner, token. -/
import Derived.Test.YtcdidmohgcegmaaDoorInb
namespace Go.Proofs.YtcdidmohgcegmaaDoor
open Go.RowKit
set_option maxRecDepth 100000
attribute [local go_sem ↓ high] builtin_app
section
variable {B g : Nat} {s : ByteArray} {r : Rd} {w : World}

set_option maxHeartbeats 3200000 in
theorem word_any (n : Nat) (hT : TokOk s B g n) (hR : RdAt w B g s r) (hI : Inv 0 s r) (hst : r.start = r.pos) (hs : s.size ≤ 100000) (hp : r.pos < s.size) (hc2 : clsM (bt s r.pos) = 2) (hn : s.size - (r.pos + 1) < n) (hg : Gl w) (hg1 : 2 < g) :
    Calls Tryd.prog 65 #[.pointer (some ⟨g, 0, none⟩)] w (Out w B g s (wordM (tokenM s n) s r)) := by
  generalize hm : wordM (tokenM s n) s r = res
  unfold wordM at hm
  obtain ⟨c0, c1, c2, _⟩ := hR.cells
  have hB := hR.lt
  have HR := Lib.hid hR
  have HT := Lib.hid hT
  have HI := Lib.hid hI
  have HST := Lib.hid hst
  have hpp := hI.pos
  have hle := runM_gt (f := fun i => inWordM (bt s i)) hp (by simp [inWordM, hc2])
  change r.pos < wordEndM s r.pos ∧ wordEndM s r.pos ≤ s.size at hle
  obtain ⟨en, hen⟩ : ∃ en, wordEndM s r.pos = en := ⟨_, rfl⟩
  rw [hen] at hm hle
  have hen1 := hle.1
  have hen2 := hle.2
  have hsz : (s.extract r.pos en).size = en - r.pos := ext_size (by omega) hle.2
  have HEN := Lib.hid hen
  have hsl : ∀ W : World, (Instr.slice 9 (.string s) (some (.int .i64 (r.pos : Int))) (some (.int .i64 (en : Int))) none).run Tryd.prog W = .ok (.string (s.extract r.pos en)) W := fun W =>
    slice_str Tryd.underlying9 s r.pos en (by omega) hen2 W
  have HSZ := Lib.hid hsz
  simp only at hm
  have HM := Lib.hid hm
  clear hR hT hI hst hle hen hsz hm hc2
  by_cases hun : ((s.extract r.pos en).toList == [95]) = true
  · have hmr : putMarkM r (s.extract r.pos en) = res := by rw [← HM.out, if_pos hun]
    have HMR := Lib.hid hmr
    clear HM hmr
    go_enter Tryd.func65, Tryd.ntmps65
    go_wp2_with fail
    refine (wordEnd_any r.pos HR.out (by omega) hs hg).mono ?_
    rintro e w' ⟨rfl, rfl⟩
    rw [HEN.out]
    go_wp2_with fail
    go_quiet (fail)
    go_wp2_with fail
    refine (putMark_any _ (HR.out.drewN _) (by rw [HST.out, HSZ.out]; omega) (by rw [HST.out]; exact HI.out.ls) (by have := HI.out.len; omega) HI.out.opn).mono ?_
    rintro e w2 h
    rw [HMR.out] at h
    cases res with
    | error f =>
      obtain ⟨rfl, h4⟩ := h
      go_wp2_with fail
      exact ⟨rfl, rfl, ((Keep.refl _ _ _).drewN _).trans h4⟩
    | ok r' =>
      obtain ⟨rfl, h3, h4⟩ := h
      go_wp2_with fail
      first | go_end0 | refine bodyPost_ret (results_none rfl _ _ _) rfl ?_
      exact ⟨rfl, h3, ((Keep.refl _ _ _).drewN _).trans h4⟩
  · have hun' : ((s.extract r.pos en).toList == [95]) = false := by simpa using hun
    by_cases hk : keywordM (s.extract r.pos en) = true
    · have hmr : putNamedM s r 1 en = res := by rw [← HM.out, if_neg hun, if_pos hk]
      have HMR := Lib.hid hmr
      clear HM hmr hun
      go_enter Tryd.func65, Tryd.ntmps65
      go_wp2_with fail
      refine (wordEnd_any r.pos HR.out (by omega) hs hg).mono ?_
      rintro e w' ⟨rfl, rfl⟩
      rw [HEN.out]
      go_wp2_with fail
      go_quiet (fail)
      go_wp2_with (go_at_call 8; refine (keyword_any _ _ (hg.drewN _)).mono ?_; rintro e w' ⟨rfl, rfl⟩)
      refine (putNamed_any 1 en (HR.out.drewN _) (by rw [HST.out]; omega) hen2 hs (by rw [HST.out]; exact HI.out.ls) (by have := HI.out.len; omega)).mono ?_
      rintro e w2 h
      rw [HMR.out] at h
      cases res with
      | error f =>
        obtain ⟨rfl, h4⟩ := h
        go_wp2_with fail
        exact ⟨rfl, rfl, ((Keep.refl _ _ _).drewN _).trans h4⟩
      | ok r' =>
        obtain ⟨rfl, h3, h4⟩ := h
        go_wp2_with fail
        first | go_end0 | refine bodyPost_ret (results_none rfl _ _ _) rfl ?_
        exact ⟨rfl, h3, ((Keep.refl _ _ _).drewN _).trans h4⟩
    · have hk' : keywordM (s.extract r.pos en) = false := by simpa using hk
      by_cases hq : hpM (s.extract en s.size) ⟨#[34]⟩ = true
      · have hm1 : (match putNamedM s r 8 en with
            | .error f => .error f
            | .ok r' => interpM (tokenM s n) s { r' with pos := en + 1 }) = res := by
          rw [← HM.out, if_neg hun, if_neg hk, if_pos (show fol s en ⟨#[34]⟩ = true from hq)]
          cases putNamedM s r 8 en <;> rfl
        have hlen := fol_len (show fol s en ⟨#[34]⟩ = true from hq)
        have hz : (⟨#[34]⟩ : ByteArray).size = 1 := rfl
        have hen3 : en + 1 ≤ s.size := by omega
        have HMR := Lib.hid hm1
        clear HM hm1 hun hk hlen hz
        go_enter Tryd.func65, Tryd.ntmps65
        go_wp2_with fail
        refine (wordEnd_any r.pos HR.out (by omega) hs hg).mono ?_
        rintro e w' ⟨rfl, rfl⟩
        rw [HEN.out]
        go_wp2_with fail
        go_quiet (fail)
        go_wp2_with (first | (go_at_call 8; refine (keyword_any _ _ (hg.drewN _)).mono ?_; rintro e w' ⟨rfl, rfl⟩) | (go_at_call 64; refine (hp_any _ _ _).mono ?_; rintro e w' ⟨rfl, rfl⟩))
        refine (putNamed_any 8 en (HR.out.drewN _) (by rw [HST.out]; omega) hen2 hs (by rw [HST.out]; exact HI.out.ls) (by have := HI.out.len; omega)).mono ?_
        rintro e w2 h
        have hm := HMR.out
        cases hpn : putNamedM s r 8 en with
        | error f =>
          rw [hpn] at h hm
          obtain ⟨rfl, h4⟩ := h
          subst hm
          clear HMR
          go_wp2_with fail
          exact ⟨rfl, rfl, ((Keep.refl _ _ _).drewN _).trans h4⟩
        | ok r1 =>
          rw [hpn] at h hm
          obtain ⟨rfl, h3, h4⟩ := h
          have hs1 := putNamedM_step hpn hen1 hen2 HI.out.opn
          have hI1 : Inv 0 s r1 := hs1.1.inv HI.out.more
          have hp1 : r1.pos = en := hs1.2
          have hI2 : Inv 0 s { r1 with pos := en + 1 } := ⟨hen3, by show r1.line ≤ en + 1; have := hI1.line; omega, by show r1.ls ≤ en + 1; have := hI1.ls; omega, by show r1.list.length ≤ 2 * (en + 1) + 0; have := hI1.len; omega, hI1.opn⟩
          obtain ⟨_, d1, _⟩ := h3.cells
          rw [hp1] at d1
          have f1 := h3.frozen 1
          have HM2 := Lib.hid hm
          have HH3 := Lib.hid h3
          have HH4 := Lib.hid h4
          have HI2 := Lib.hid hI2
          have HG2 := Lib.hid ((hg.drewN _).keep h4 (by omega) hg1)
          clear HMR hm hpn hs1 hI1 hp1 h3 h4 hI2
          go_wp2_with fail
          refine (interp_any n HT.out (HH3.out.pos' (en + 1)) HI2.out hs (by show s.size - (en + 1 + 2) < n; omega) (HG2.out.setCell (p := ⟨g, 1, none⟩) hg1 _) hg1).mono ?_
          rintro e w3 h
          rw [HM2.out] at h
          cases res with
          | error f =>
            obtain ⟨rfl, h7⟩ := h
            go_wp2_with fail
            exact ⟨rfl, rfl, ((((Keep.refl _ _ _).drewN _).trans HH4.out).at_ _ _).trans h7⟩
          | ok r' =>
            obtain ⟨rfl, h6, h7⟩ := h
            go_wp2_with fail
            first | go_end0 | refine bodyPost_ret (results_none rfl _ _ _) rfl ?_
            exact ⟨rfl, h6, ((((Keep.refl _ _ _).drewN _).trans HH4.out).at_ _ _).trans h7⟩
      · have hq' : hpM (s.extract en s.size) ⟨#[34]⟩ = false := by simpa using hq
        have hmr : putNamedM s r 0 en = res := by rw [← HM.out, if_neg hun, if_neg hk, if_neg (show ¬ fol s en ⟨#[34]⟩ = true from hq)]
        have HMR := Lib.hid hmr
        clear HM hmr hun hk hq
        go_enter Tryd.func65, Tryd.ntmps65
        go_wp2_with fail
        refine (wordEnd_any r.pos HR.out (by omega) hs hg).mono ?_
        rintro e w' ⟨rfl, rfl⟩
        rw [HEN.out]
        go_wp2_with fail
        go_quiet (fail)
        go_wp2_with (first | (go_at_call 8; refine (keyword_any _ _ (hg.drewN _)).mono ?_; rintro e w' ⟨rfl, rfl⟩) | (go_at_call 64; refine (hp_any _ _ _).mono ?_; rintro e w' ⟨rfl, rfl⟩))
        refine (putNamed_any 0 en (HR.out.drewN _) (by rw [HST.out]; omega) hen2 hs (by rw [HST.out]; exact HI.out.ls) (by have := HI.out.len; omega)).mono ?_
        rintro e w2 h
        rw [HMR.out] at h
        cases res with
        | error f =>
          obtain ⟨rfl, h4⟩ := h
          go_wp2_with fail
          exact ⟨rfl, rfl, ((Keep.refl _ _ _).drewN _).trans h4⟩
        | ok r' =>
          obtain ⟨rfl, h3, h4⟩ := h
          go_wp2_with fail
          first | go_end0 | refine bodyPost_ret (results_none rfl _ _ _) rfl ?_
          exact ⟨rfl, h3, ((Keep.refl _ _ _).drewN _).trans h4⟩

theorem ret_func {a b : FuncId} {x y : Array Value} (h : a = b) : Ending.returned (.func (.func a) x y) = .returned (.func (.func b) x y) := by rw [h]
/-- The method that scanner hands back. -/
def pick (c : Nat) : FuncId := if c = 2 then 65 else if c = 3 then 66 else if c = 4 then 67 else if c = 5 then 68 else if c = 6 then 69 else if c = 7 then 70 else if c = 8 then 71 else 72

set_option maxHeartbeats 1600000 in
theorem scanner_any (hR : RdAt w B g s r) (hp : r.pos < s.size) (_hs : s.size ≤ 100000) (hg : Gl w) :
    Calls Tryd.prog 54 #[.pointer (some ⟨g, 0, none⟩)] w fun e w' => e = .returned (.func (.func (pick (clsM (bt s r.pos)))) #[.pointer (some ⟨g, 0, none⟩)] #[]) ∧ ∃ n, w' = w.drewN n := by
  obtain ⟨c0, c1, _⟩ := hR.cells
  have hb := bt_at s r.pos hp
  clear hR
  have hmf : ∀ (fn : Fn) (first cap : Array Value) (w : World), (Instr.makeFunc fn first cap).run Tryd.prog w = .ok (.func fn first cap) w := fun _ _ _ _ => rfl
  go_enter Tryd.func54, Tryd.ntmps54
  go_wp2_with fail
  go_quiet ((go_at_call 22; exact quiet_left (class_any _ _ (hg.drewN _))))
  go_wp2_with fail
  all_goals
    go_ret
    go_light
    refine ⟨ret_func ?_, _, rfl⟩
    simp only [beq_iff_eq, beq_eq_false_iff_ne, ne_eq] at *
    unfold pick
    (repeat' split) <;> first | rfl | omega

set_option maxHeartbeats 3200000 in
theorem token_step (n : Nat) (hT : TokOk s B g n) (hs : s.size ≤ 100000) : TokOk s B g (n + 1) := by
  intro r w hR hI hp hn hg hg1
  generalize hm : tokenM s (n + 1) r = res
  rw [tokenM, tokenF] at hm
  try dsimp only at hm
  obtain ⟨_, c1, c2, _⟩ := hR.cells
  have f2 := hR.frozen 2
  have hpp := hI.pos
  have HR := Lib.hid hR
  have HT := Lib.hid hT
  have HI := Lib.hid hI
  have HG := Lib.hid (hg.setCell (p := ⟨g, 2, none⟩) hg1 (.int .i64 (r.pos : Int)))
  clear hR hT hI hg
  by_cases hc : clsM (bt s r.pos) = 2
  · rw [if_pos hc] at hm
    have hpk : pick (clsM (bt s r.pos)) = 65 := by rw [hc]; rfl
    have HM := Lib.hid hm
    have HC := Lib.hid hc
    clear hm hc
    go_enter Tryd.func42, Tryd.ntmps42
    go_wp2_with fail
    refine (scanner_any (HR.out.start' r.pos) hp hs HG.out).mono ?_
    rintro e w' ⟨rfl, m, rfl⟩
    rw [hpk]
    go_wp2_with fail
    have HR1 := (HR.out.start' r.pos).drewN m
    have HI1 := HI.out.start r.pos
    have HG1 := HG.out.drewN m
    have hc := HC.out
    refine (word_any n HT.out HR1 HI1 rfl hs hp hc (by show s.size - (r.pos + 1) < n; omega) HG1 hg1).mono ?_
    rintro e w2 h
    rw [HM.out] at h
    clear HR1 HI1 HG1 hc
    cases res with
    | error f =>
      obtain ⟨rfl, h4⟩ := h
      go_wp2_with fail
      exact ⟨rfl, rfl, (((Keep.refl _ _ _).at_ _ _).drewN _).trans h4⟩
    | ok r' =>
      obtain ⟨rfl, h3, h4⟩ := h
      go_wp2_with fail
      go_end0
      exact ⟨rfl, h3, (((Keep.refl _ _ _).at_ _ _).drewN _).trans h4⟩
  rw [if_neg hc] at hm
  have n2 := hc
  clear hc
  by_cases hc : clsM (bt s r.pos) = 3
  · rw [if_pos hc] at hm
    have hpk : pick (clsM (bt s r.pos)) = 66 := by rw [hc]; rfl
    have HM := Lib.hid hm
    have HC := Lib.hid hc
    clear hm hc
    go_enter Tryd.func42, Tryd.ntmps42
    go_wp2_with fail
    refine (scanner_any (HR.out.start' r.pos) hp hs HG.out).mono ?_
    rintro e w' ⟨rfl, m, rfl⟩
    rw [hpk]
    go_wp2_with fail
    have HR1 := (HR.out.start' r.pos).drewN m
    have HI1 := HI.out.start r.pos
    have HG1 := HG.out.drewN m
    have hc := HC.out
    refine (number_any HR1 hpp rfl hs HI1.ls (by have := HI1.len; show r.list.length ≤ _; simp at this; omega) HG1 hc hp).mono ?_
    rintro e w2 h
    rw [HM.out] at h
    clear HR1 HI1 HG1 hc
    cases res with
    | error f =>
      obtain ⟨rfl, h4⟩ := h
      go_wp2_with fail
      exact ⟨rfl, rfl, (((Keep.refl _ _ _).at_ _ _).drewN _).trans h4⟩
    | ok r' =>
      obtain ⟨rfl, h3, h4⟩ := h
      go_wp2_with fail
      go_end0
      exact ⟨rfl, h3, (((Keep.refl _ _ _).at_ _ _).drewN _).trans h4⟩
  rw [if_neg hc] at hm
  have n3 := hc
  clear hc
  by_cases hc : clsM (bt s r.pos) = 4
  · rw [if_pos hc] at hm
    have hpk : pick (clsM (bt s r.pos)) = 67 := by rw [hc]; rfl
    have HM := Lib.hid hm
    have HC := Lib.hid hc
    clear hm hc
    go_enter Tryd.func42, Tryd.ntmps42
    go_wp2_with fail
    refine (scanner_any (HR.out.start' r.pos) hp hs HG.out).mono ?_
    rintro e w' ⟨rfl, m, rfl⟩
    rw [hpk]
    go_wp2_with fail
    have HR1 := (HR.out.start' r.pos).drewN m
    have HI1 := HI.out.start r.pos
    have HG1 := HG.out.drewN m
    have hc := HC.out
    refine (operator_any HR1 hpp rfl hs HI1.ls (by have := HI1.len; show r.list.length ≤ _; simp at this; omega) HI1.opn HG1).mono ?_
    rintro e w2 h
    rw [HM.out] at h
    clear HR1 HI1 HG1 hc
    cases res with
    | error f =>
      obtain ⟨rfl, h4⟩ := h
      go_wp2_with fail
      exact ⟨rfl, rfl, (((Keep.refl _ _ _).at_ _ _).drewN _).trans h4⟩
    | ok r' =>
      obtain ⟨rfl, h3, h4⟩ := h
      go_wp2_with fail
      go_end0
      exact ⟨rfl, h3, (((Keep.refl _ _ _).at_ _ _).drewN _).trans h4⟩
  rw [if_neg hc] at hm
  have n4 := hc
  clear hc
  by_cases hc : clsM (bt s r.pos) = 5
  · rw [if_pos hc] at hm
    have hpk : pick (clsM (bt s r.pos)) = 68 := by rw [hc]; rfl
    have HM := Lib.hid hm
    have HC := Lib.hid hc
    clear hm hc
    go_enter Tryd.func42, Tryd.ntmps42
    go_wp2_with fail
    refine (scanner_any (HR.out.start' r.pos) hp hs HG.out).mono ?_
    rintro e w' ⟨rfl, m, rfl⟩
    rw [hpk]
    go_wp2_with fail
    have HR1 := (HR.out.start' r.pos).drewN m
    have HI1 := HI.out.start r.pos
    have HG1 := HG.out.drewN m
    have hc := HC.out
    refine (single_any HR1 hs hp HI1.ls (by have := HI1.len; show r.list.length ≤ _; simp at this; omega) HI1.opn).mono ?_
    rintro e w2 h
    rw [HM.out] at h
    clear HR1 HI1 HG1 hc
    cases res with
    | error f =>
      obtain ⟨rfl, h4⟩ := h
      go_wp2_with fail
      exact ⟨rfl, rfl, (((Keep.refl _ _ _).at_ _ _).drewN _).trans h4⟩
    | ok r' =>
      obtain ⟨rfl, h3, h4⟩ := h
      go_wp2_with fail
      go_end0
      exact ⟨rfl, h3, (((Keep.refl _ _ _).at_ _ _).drewN _).trans h4⟩
  rw [if_neg hc] at hm
  have n5 := hc
  clear hc
  by_cases hc : clsM (bt s r.pos) = 6
  · rw [if_pos hc] at hm
    have hpk : pick (clsM (bt s r.pos)) = 69 := by rw [hc]; rfl
    have HM := Lib.hid hm
    have HC := Lib.hid hc
    clear hm hc
    go_enter Tryd.func42, Tryd.ntmps42
    go_wp2_with fail
    refine (scanner_any (HR.out.start' r.pos) hp hs HG.out).mono ?_
    rintro e w' ⟨rfl, m, rfl⟩
    rw [hpk]
    go_wp2_with fail
    have HR1 := (HR.out.start' r.pos).drewN m
    have HI1 := HI.out.start r.pos
    have HG1 := HG.out.drewN m
    have hc := HC.out
    refine (char_any HR1 hp hs hpp HI1.ls (by have := HI1.len; show r.list.length ≤ _; simp at this; omega) HI1.opn).mono ?_
    rintro e w2 h
    rw [HM.out] at h
    clear HR1 HI1 HG1 hc
    cases res with
    | error f =>
      obtain ⟨rfl, h4⟩ := h
      go_wp2_with fail
      exact ⟨rfl, rfl, (((Keep.refl _ _ _).at_ _ _).drewN _).trans h4⟩
    | ok r' =>
      obtain ⟨rfl, h3, h4⟩ := h
      go_wp2_with fail
      go_end0
      exact ⟨rfl, h3, (((Keep.refl _ _ _).at_ _ _).drewN _).trans h4⟩
  rw [if_neg hc] at hm
  have n6 := hc
  clear hc
  by_cases hc : clsM (bt s r.pos) = 7
  · rw [if_pos hc] at hm
    have hpk : pick (clsM (bt s r.pos)) = 70 := by rw [hc]; rfl
    have HM := Lib.hid hm
    have HC := Lib.hid hc
    clear hm hc
    go_enter Tryd.func42, Tryd.ntmps42
    go_wp2_with fail
    refine (scanner_any (HR.out.start' r.pos) hp hs HG.out).mono ?_
    rintro e w' ⟨rfl, m, rfl⟩
    rw [hpk]
    go_wp2_with fail
    have HR1 := (HR.out.start' r.pos).drewN m
    have HI1 := HI.out.start r.pos
    have HG1 := HG.out.drewN m
    have hc := HC.out
    refine (plain_any HR1 hp hs hpp HI1.ls (by have := HI1.len; show r.list.length ≤ _; simp at this; omega)).mono ?_
    rintro e w2 h
    rw [HM.out] at h
    clear HR1 HI1 HG1 hc
    cases res with
    | error f =>
      obtain ⟨rfl, h4⟩ := h
      go_wp2_with fail
      exact ⟨rfl, rfl, (((Keep.refl _ _ _).at_ _ _).drewN _).trans h4⟩
    | ok r' =>
      obtain ⟨rfl, h3, h4⟩ := h
      go_wp2_with fail
      go_end0
      exact ⟨rfl, h3, (((Keep.refl _ _ _).at_ _ _).drewN _).trans h4⟩
  rw [if_neg hc] at hm
  have n7 := hc
  clear hc
  by_cases hc : clsM (bt s r.pos) = 8
  · rw [if_pos hc] at hm
    have hpk : pick (clsM (bt s r.pos)) = 71 := by rw [hc]; rfl
    have HM := Lib.hid hm
    have HC := Lib.hid hc
    clear hm hc
    go_enter Tryd.func42, Tryd.ntmps42
    go_wp2_with fail
    refine (scanner_any (HR.out.start' r.pos) hp hs HG.out).mono ?_
    rintro e w' ⟨rfl, m, rfl⟩
    rw [hpk]
    go_wp2_with fail
    have HR1 := (HR.out.start' r.pos).drewN m
    have HI1 := HI.out.start r.pos
    have HG1 := HG.out.drewN m
    have hc := HC.out
    refine (splice_any HR1 hpp hs hpp HI1.ls (by have := HI1.len; show r.list.length ≤ _; simp at this; omega) HI1.opn).mono ?_
    rintro e w2 h
    rw [HM.out] at h
    clear HR1 HI1 HG1 hc
    cases res with
    | error f =>
      obtain ⟨rfl, h4⟩ := h
      go_wp2_with fail
      exact ⟨rfl, rfl, (((Keep.refl _ _ _).at_ _ _).drewN _).trans h4⟩
    | ok r' =>
      obtain ⟨rfl, h3, h4⟩ := h
      go_wp2_with fail
      go_end0
      exact ⟨rfl, h3, (((Keep.refl _ _ _).at_ _ _).drewN _).trans h4⟩
  rw [if_neg hc] at hm
  have n8 := hc
  clear hc
  have hpk : pick (clsM (bt s r.pos)) = 72 := by
    unfold pick
    rw [if_neg n2, if_neg n3, if_neg n4, if_neg n5, if_neg n6, if_neg n7, if_neg n8]
  subst hm
  go_enter Tryd.func42, Tryd.ntmps42
  go_wp2_with fail
  refine (scanner_any (HR.out.start' r.pos) hp hs HG.out).mono ?_
  rintro e w' ⟨rfl, m, rfl⟩
  rw [hpk]
  go_wp2_with fail
  refine (stray_any ((HR.out.start' r.pos).drewN m)).mono ?_
  rintro e w2 ⟨rfl, rfl⟩
  go_wp2_with fail
  exact ⟨rfl, rfl, ((Keep.refl _ _ _).at_ _ _).drewN _⟩
theorem token_ok (hs : s.size ≤ 100000) : ∀ n, TokOk s B g n
  | 0 => fun r w _ _ _ hn => absurd hn (by omega)
  | n + 1 => token_step n (token_ok hs n) hs
end
end Go.Proofs.YtcdidmohgcegmaaDoor
