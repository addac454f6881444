/- Contracts of spliced, expression, interpolated, word: the reader's methods that call each other, over a contract of token at a smaller fuel. -/
import Derived.Test.YtcdidmohgcegmaaDoorRde
import Derived.Test.YtcdidmohgcegmaaDoorNmb
import Derived.Test.YtcdidmohgcegmaaDoorPub
namespace Go.Proofs.YtcdidmohgcegmaaDoor
open Go.RowKit
set_option maxRecDepth 100000
attribute [local go_sem ↓ high] builtin_app
section
variable {B g : Nat} {s : ByteArray} {r : Rd} {w : World}

/-- 'token' at fuel n ends as the model says. -/
def TokOk (s : ByteArray) (B g : Nat) (n : Nat) : Prop := ∀ (r : Rd) (w : World), RdAt w B g s r → Inv 0 s r → r.pos < s.size → s.size - r.pos < n → Gl w → 2 < g →
  Calls Tryd.prog 42 #[.pointer (some ⟨g, 0, none⟩)] w (Out w B g s (tokenM s n r))

theorem RdAt.opnCell (h : RdAt w B g s r) : ∃ A cap, w.cell? ⟨g, 5, none⟩ = some (.slice A r.opn.length cap) := by
  obtain ⟨ov, lv, hg, hlt, hle, ho, hl2⟩ := h
  have c5 : w.cell? ⟨g, 5, none⟩ = some ov := by simp [cell_of_row w g _ _ _ _ hg]
  rcases ho.2 with ⟨rfl, h⟩ | ⟨k, cap, cur, rfl, _⟩
  · exact ⟨none, 0, by rw [c5, h]⟩
  · exact ⟨_, cap, c5⟩

set_option maxHeartbeats 1600000 in
theorem spliced_any (n : Nat) (hT : TokOk s B g n) (hR : RdAt w B g s r) (hI : Inv 1 s r) (hs : s.size ≤ 100000) (hst : r.start = r.pos) (hp2 : r.pos + 2 ≤ s.size) (hn : s.size - (r.pos + 2) < n) (hg : Gl w) (hg1 : 2 < g) :
    Calls Tryd.prog 98 #[.pointer (some ⟨g, 0, none⟩)] w (Out w B g s (splicedM (tokenM s n) s r)) := by
  generalize hm : splicedM (tokenM s n) s r = res
  unfold splicedM at hm
  obtain ⟨A, cap, c5⟩ := hR.opnCell
  have hB := hR.lt
  have HR := Lib.hid hR
  have HM := Lib.hid hm
  have HT := Lib.hid hT
  clear hR hm hT
  go_enter Tryd.func98, Tryd.ntmps98
  go_wp2_with fail
  refine (putMark_any ⟨#[36, 123]⟩ HR.out (by have : (⟨#[36, 123]⟩ : ByteArray).size = 2 := rfl; omega) (by rw [hst]; exact hI.ls) (by have := hI.len; have := hI.pos; omega) hI.opn).mono ?_
  rintro e w1 h
  have hm := HM.out
  cases hc : putMarkM r ⟨#[36, 123]⟩ with
  | error f =>
    rw [hc] at h hm
    obtain ⟨rfl, h4⟩ := h
    subst hm
    clear HM
    go_wp2_with fail
    exact ⟨rfl, rfl, h4⟩
  | ok r1 =>
    rw [hc] at h hm
    obtain ⟨rfl, h3, h4⟩ := h
    have hz : (⟨#[36, 123]⟩ : ByteArray).size = 2 := rfl
    have hst1 := putMarkM_step (s := s) hc hst (by omega) (by omega) hI.opn
    have hI1 : Inv 0 s r1 := hst1.1.inv hI
    have hpos1 : r1.pos = r.pos + 2 := hst1.2
    have hop : r.opn.length ≤ 64 := hI.opn
    have HC := Lib.hid hm
    have H3 := Lib.hid h3
    have H4 := Lib.hid h4
    have HG1 := Lib.hid (hg.keep h4 (by omega) hg1)
    have HP1 := Lib.hid hpos1
    clear HM hm h3 h4 hc hst1 hst hz hpos1
    go_wp2_with fail
    go_loopg [] (s.size + 1 - r1.pos) (fun k wr => ∃ q : Rd, Inv 0 s q ∧ Hid (r1.pos ≤ q.pos) ∧ Hid (k = s.size + 1 - q.pos) ∧ Hid (∃ f, s.size < f + q.pos ∧ splicedK (tokenM s n) s r.opn.length f q = res) ∧ RdAt wr B g s q ∧ Keep B g w1 wr)
    case atStart => exact ⟨r1, hI1, Nat.le_refl _, rfl, ⟨_, by omega, HC.out⟩, H3.out, Keep.refl _ _ _⟩
    case round =>
      obtain ⟨q, hIq, hqq, HN, HF, hRq, hK⟩ := hrel
      obtain ⟨A2, cap2, d5⟩ := hRq.opnCell
      have hopq : q.opn.length ≤ 64 := hIq.opn
      have HRq := Lib.hid hRq
      have HK := Lib.hid hK
      have HIq := Lib.hid hIq
      have hgr : Gl wr := HG1.out.keep hK (by omega) hg1
      clear hRq hK hIq c5
      by_cases hlt : r.opn.length < q.opn.length
      · obtain ⟨f, hf, HC2⟩ : ∃ f, s.size ≤ f + q.pos ∧ Hid ((match skipM s q with
            | .error f => .error f
            | .ok (false, r') => .error ⟨(lastOp r').2, 27⟩
            | .ok (true, r') => match tokenM s n r' with
              | .error f => .error f
              | .ok r'' => splicedK (tokenM s n) s r.opn.length f r'') = res) := by
          obtain ⟨f, hf, hc⟩ := HF.out
          cases f with
          | zero => have := HIq.out.pos; omega
          | succ f => exact ⟨f, by omega, by rw [splicedK, if_pos hlt] at hc; exact hc⟩
        clear HF
        go_wp2_with fail
        refine (skip_any HRq.out HIq.out.pos HIq.out.line HIq.out.ls hs hgr hg1).mono ?_
        rintro e w2 h
        have hm := HC2.out
        cases hsk : skipM s q with
        | error f =>
          rw [hsk] at h hm
          obtain ⟨rfl, h4⟩ := h
          subst hm
          clear HC2
          go_wp2_with fail
          exact ⟨rfl, rfl, (H4.out.trans HK.out).trans h4⟩
        | ok x =>
          obtain ⟨b, q2⟩ := x
          rw [hsk] at h hm
          obtain ⟨rfl, h5, h6⟩ := h
          have hi2 := skipM_inv hsk HIq.out
          have HH5 := Lib.hid h5
          have HH6 := Lib.hid h6
          have HI2 := Lib.hid hi2
          clear HC2 h5 h6 hi2 hsk
          cases b with
          | false =>
            replace hm : .error ⟨(lastOp q2).2, 27⟩ = res := hm
            subst hm
            have hol : q2.opn.length = q.opn.length := congrArg List.length HI2.out.2.2.1
            go_wp2_with fail
            refine (unclosed_any HH5.out (by omega) (by omega)).mono ?_
            rintro e w3 ⟨rfl, h7⟩
            go_wp2_with fail
            exact ⟨rfl, rfl, ((H4.out.trans HK.out).trans HH6.out).trans h7⟩
          | true =>
            have hm3 := Lib.hid hm
            clear hm
            go_wp2_with fail
            have hgt := HI2.out.2.2.2.2 (by first | exact rfl | exact trivial)
            refine (HT.out q2 w2 HH5.out HI2.out.1 hgt.1 (by have := HI2.out.2.1; have := hqq.out; have := HP1.out; omega) (hgr.keep HH6.out (by omega) hg1) hg1).mono ?_
            rintro e w3 h
            cases htk : tokenM s n q2 with
            | error f =>
              have hm := hm3.out
              rw [htk] at h
              simp only [htk] at hm
              obtain ⟨rfl, h7⟩ := h
              subst hm
              clear hm3
              go_wp2_with fail
              exact ⟨rfl, rfl, ((H4.out.trans HK.out).trans HH6.out).trans h7⟩
            | ok q3 =>
              have hm := hm3.out
              rw [htk] at h
              simp only [htk] at hm
              obtain ⟨rfl, h7, h8⟩ := h
              have hi3 := tokenM_inv s n _ _ htk HI2.out.1 hgt.1 hgt.2.1 hgt.2.2.1
              have HI3 := Lib.hid hi3
              have HM3 := Lib.hid hm
              clear hm hi3 htk hm3 hgt
              go_wp2_with fail
              go_roundg (s.size + 1 - q3.pos)
              case measure => have := HN.out; have := HI3.out.2; have := HI3.out.1.pos; have := HI2.out.2.1; omega
              case rel =>
                exact ⟨q3, HI3.out.1, by have := hqq.out; have := HI3.out.2; have := HI2.out.2.1; show r1.pos ≤ q3.pos; omega, rfl, ⟨f, by have := HI3.out.2; have := HI2.out.2.1; omega, HM3.out⟩, h7, (HK.out.trans HH6.out).trans h8⟩
      · have ho : res = .ok q := by
          obtain ⟨f, hf, hc⟩ := HF.out
          cases f with
          | zero => have := HIq.out.pos; omega
          | succ f => rw [splicedK, if_neg hlt] at hc; exact hc.symm
        subst ho
        go_wp2_with fail
        go_end0
        exact ⟨rfl, HRq.out, H4.out.trans HK.out⟩

set_option maxHeartbeats 1600000 in
theorem expr_any (n : Nat) (hT : TokOk s B g n) (hR : RdAt w B g s r) (hI : Inv 1 s r) (hs : s.size ≤ 100000) (hp : r.pos < s.size) (hn : s.size - (r.pos + 2) < n) (hg : Gl w) (hg1 : 2 < g) :
    Calls Tryd.prog 96 #[.pointer (some ⟨g, 0, none⟩)] w (Out w B g s (exprM (tokenM s n) s r)) := by
  generalize hm : exprM (tokenM s n) s r = res
  unfold exprM at hm
  obtain ⟨c0, c1, c2, _⟩ := hR.cells
  have f2 := hR.frozen 2
  have hB := hR.lt
  have HR := Lib.hid hR
  have HT := Lib.hid hT
  have HI := Lib.hid hI
  have hpp := hI.pos
  clear hR hT hI
  by_cases hf : fol s r.pos ⟨#[36, 123]⟩ = true
  · rw [if_pos hf] at hm
    have h2 := fol_len hf
    have hz : (⟨#[36, 123]⟩ : ByteArray).size = 2 := rfl
    have hp2 : r.pos + 2 ≤ s.size := by omega
    have HM := Lib.hid hm
    clear hm h2 hz
    go_enter Tryd.func96, Tryd.ntmps96
    go_wp2_with fail
    refine (follows_any _ (HR.out.start' r.pos) hpp hs).mono ?_
    rintro e w' ⟨rfl, m, rfl⟩
    go_wp2_with fail
    refine (spliced_any n HT.out ((HR.out.start' r.pos).drewN m) (HI.out.start _) hs rfl hp2 hn ((hg.setCell (p := ⟨g, 2, none⟩) hg1 _).drewN m) hg1).mono ?_
    rintro e w2 h
    rw [HM.out] at h
    cases res with
    | error f =>
      obtain ⟨rfl, h4⟩ := h
      go_wp2_with fail
      exact ⟨rfl, rfl, (((Keep.refl _ _ _).at_ _ _).drewN _).trans h4⟩
    | ok r' =>
      obtain ⟨rfl, h3, h4⟩ := h
      go_wp2_with fail
      first | go_end0 | refine bodyPost_ret (results_none rfl _ _ _) rfl ?_
      exact ⟨rfl, h3, (((Keep.refl _ _ _).at_ _ _).drewN _).trans h4⟩
  · rw [if_neg hf] at hm
    have hf' : fol s r.pos ⟨#[36, 123]⟩ = false := by simpa using hf
    simp only at hm
    have hle := runM_le s (fun i => inWordM (bt s i)) (r.pos + 1) (by omega)
    change r.pos + 1 ≤ wordEndM s (r.pos + 1) ∧ wordEndM s (r.pos + 1) ≤ s.size at hle
    obtain ⟨en, hen⟩ : ∃ en, wordEndM s (r.pos + 1) = en := ⟨_, rfl⟩
    rw [hen] at hm hle
    have hen1 := hle.1
    have hen2 := hle.2
    have hsz : (s.extract (r.pos + 1) en).size = en - (r.pos + 1) := ext_size hle.1 hle.2
    have HM := Lib.hid hm
    have HEN := Lib.hid hen
    have hsl : ∀ W : World, (Instr.slice 9 (.string s) (some (.int .i64 ((r.pos : Int) + 1))) (some (.int .i64 (en : Int))) none).run Tryd.prog W = .ok (.string (s.extract (r.pos + 1) en)) W := fun W =>
      slice_str Tryd.underlying9 s (r.pos + 1) en hen1 hen2 W
    have e1 : IntKind.i64.wrap ((r.pos : Int) + 1) = (r.pos : Int) + 1 := IntWalk.i64_in _ (by omega)
    have HSZ := Lib.hid hsz
    clear hm hf hle hen hsz
    have hK0 : Keep B g w (w.setCell ⟨g, 2, none⟩ (.int .i64 (r.pos : Int))) := (Keep.refl _ _ _).at_ _ _
    have hgl : Gl (w.setCell ⟨g, 2, none⟩ (.int .i64 (r.pos : Int))) := hg.setCell (p := ⟨g, 2, none⟩) hg1 _
    have HK0 := Lib.hid hK0
    have HGL := Lib.hid hgl
    clear hK0 hgl
    by_cases hem : (s.extract (r.pos + 1) en).toList.isEmpty = true
    · have hres : res = .error ⟨r.pos, 27⟩ := by rw [← HM.out]; simp only [hem, Bool.true_or, if_true]
      subst hres
      clear HM
      go_enter Tryd.func96, Tryd.ntmps96
      go_wp2_with fail
      refine (follows_any _ (HR.out.start' r.pos) hpp hs).mono ?_
      rintro e w' ⟨rfl, m, rfl⟩
      go_wp2_with fail
      refine (wordEnd_any (r.pos + 1) ((HR.out.start' r.pos).drewN m) (by omega) hs (HGL.out.drewN m)).mono ?_
      rintro e w' ⟨rfl, rfl⟩
      rw [HEN.out]
      go_wp2_with fail
      go_quiet (fail)
      go_wp2_with (go_at_call 49; refine (fail_any _ _ _).mono ?_; rintro e w' ⟨rfl, rfl⟩)
      exact ⟨rfl, rfl, HK0.out.drewN _⟩
    · have hem' : (s.extract (r.pos + 1) en).toList.isEmpty = false := by simpa using hem
      have h0 : 0 < (s.extract (r.pos + 1) en).size := by
        rcases Nat.eq_zero_or_pos (s.extract (r.pos + 1) en).size with h | h
        · have := toList_length (s.extract (r.pos + 1) en)
          rw [h] at this
          exact absurd (List.isEmpty_iff.2 (List.eq_nil_of_length_eq_zero this)) hem
        · exact h
      have h00 : r.pos + 1 < en := by have := HSZ.out; omega
      have hx : (s.extract (r.pos + 1) en)[0]'h0 = bt (s.extract (r.pos + 1) en) 0 := bt_at _ 0 h0
      clear hem
      by_cases hun : ((s.extract (r.pos + 1) en).toList == [95]) = true
      · have hres : res = .error ⟨r.pos, 27⟩ := by rw [← HM.out]; simp only [hem', hun, Bool.true_or, Bool.or_true, if_true]
        subst hres
        clear HM
        go_enter Tryd.func96, Tryd.ntmps96
        go_wp2_with fail
        refine (follows_any _ (HR.out.start' r.pos) hpp hs).mono ?_
        rintro e w' ⟨rfl, m, rfl⟩
        go_wp2_with fail
        refine (wordEnd_any (r.pos + 1) ((HR.out.start' r.pos).drewN m) (by omega) hs (HGL.out.drewN m)).mono ?_
        rintro e w' ⟨rfl, rfl⟩
        rw [HEN.out]
        go_wp2_with fail
        go_quiet (fail)
        go_wp2_with (go_at_call 49; refine (fail_any _ _ _).mono ?_; rintro e w' ⟨rfl, rfl⟩)
        exact ⟨rfl, rfl, HK0.out.drewN _⟩
      · have hun' : ((s.extract (r.pos + 1) en).toList == [95]) = false := by simpa using hun
        clear hun
        by_cases hcl : clsM (bt (s.extract (r.pos + 1) en) 0) = 2
        · have t1 : (((clsM (bt (s.extract (r.pos + 1) en) 0) : Nat) : Int) != 2) = false := by simp [hcl]
          have hmr : res = putNamedM s { r with start := r.pos + 1 } (if keywordM (s.extract (r.pos + 1) en) then 1 else 0) en := by
            rw [← HM.out]
            simp only [hem', hun', hcl, Bool.or_false, ne_eq, not_true_eq_false, decide_false, Bool.false_eq_true, if_false]
          have HMR := Lib.hid hmr
          clear HM hmr hcl
          by_cases hk : keywordM (s.extract (r.pos + 1) en) = true
          all_goals
            first
              | (replace hk : keywordM (s.extract (r.pos + 1) en) = false := by simpa using hk)
              | skip
            go_enter Tryd.func96, Tryd.ntmps96
            go_wp2_with fail
            refine (follows_any _ (HR.out.start' r.pos) hpp hs).mono ?_
            rintro e w' ⟨rfl, m, rfl⟩
            go_wp2_with fail
            refine (wordEnd_any (r.pos + 1) ((HR.out.start' r.pos).drewN m) (by omega) hs (HGL.out.drewN m)).mono ?_
            rintro e w' ⟨rfl, rfl⟩
            rw [HEN.out]
            go_wp2_with fail
            go_quiet (fail)
            go_wp2_with (first | (go_at_call 22; refine (class_any _ _ (HGL.out.drewN _)).mono ?_; rintro e w' ⟨rfl, rfl⟩) | (go_at_call 8; refine (keyword_any _ _ (((HGL.out.drewN _).setCell (p := ⟨g, 2, none⟩) hg1 _))).mono ?_; rintro e w' ⟨rfl, rfl⟩))
            refine (putNamed_any _ en (((HR.out.start' r.pos).drewN _).start' (r.pos + 1)) hen1 hen2 hs (by show r.ls ≤ r.pos + 1; have := HI.out.ls; omega) (by have := HI.out.len; show r.list.length ≤ _; omega)).mono ?_
            rintro e w2 h
            have hmr := HMR.out
            rw [hk] at hmr
            simp only [if_true, if_false, Bool.false_eq_true] at hmr
            simp only [← hmr] at h
            clear hmr HMR
            cases res with
            | error f =>
              obtain ⟨rfl, h4⟩ := h
              go_wp2_with fail
              exact ⟨rfl, rfl, ((HK0.out.drewN _).at_ _ _).trans h4⟩
            | ok r' =>
              obtain ⟨rfl, h3, h4⟩ := h
              go_wp2_with fail
              first | go_end0 | refine bodyPost_ret (results_none rfl _ _ _) rfl ?_
              exact ⟨rfl, h3, ((HK0.out.drewN _).at_ _ _).trans h4⟩
        · have t1 : (((clsM (bt (s.extract (r.pos + 1) en) 0) : Nat) : Int) != 2) = true := by simp; omega
          have hres : res = .error ⟨r.pos, 27⟩ := by rw [← HM.out]; simp [hcl]
          subst hres
          clear HM hcl
          go_enter Tryd.func96, Tryd.ntmps96
          go_wp2_with fail
          refine (follows_any _ (HR.out.start' r.pos) hpp hs).mono ?_
          rintro e w' ⟨rfl, m, rfl⟩
          go_wp2_with fail
          refine (wordEnd_any (r.pos + 1) ((HR.out.start' r.pos).drewN m) (by omega) hs (HGL.out.drewN m)).mono ?_
          rintro e w' ⟨rfl, rfl⟩
          rw [HEN.out]
          go_wp2_with fail
          go_quiet (fail)
          go_wp2_with (first | (go_at_call 22; refine (class_any _ _ (HGL.out.drewN _)).mono ?_; rintro e w' ⟨rfl, rfl⟩) | (go_at_call 49; refine (fail_any _ _ _).mono ?_; rintro e w' ⟨rfl, rfl⟩))
          exact ⟨rfl, rfl, HK0.out.drewN _⟩
end
end Go.Proofs.YtcdidmohgcegmaaDoor
