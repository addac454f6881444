/- Contract of skip. Conditions: the reader lies at block g, its numbers are small, the listed tables stand. -/
import Derived.Test.YtcdidmohgcegmaaDoorRdd
import Derived.Test.YtcdidmohgcegmaaDoorRdb
import Derived.Test.YtcdidmohgcegmaaDoorPua
import Derived.Test.YtcdidmohgcegmaaDoorChc
namespace Go.Proofs.YtcdidmohgcegmaaDoor
open Go.RowKit
set_option maxRecDepth 100000
attribute [local go_sem ↓ high] builtin_app
section
variable {B g : Nat} {s : ByteArray} {r : Rd} {w : World}

set_option maxHeartbeats 1600000 in
theorem skip_any (hR : RdAt w B g s r) (hp : r.pos ≤ s.size) (hl : r.line ≤ r.pos) (hls : r.ls ≤ r.pos) (hs : s.size ≤ 100000) (hg : Gl w) (hg1 : 2 < g) :
    Calls Tryd.prog 41 #[.pointer (some ⟨g, 0, none⟩)] w (POut w B g s (skipM s r)) := by
  generalize hm : skipM s r = res
  unfold skipM at hm
  have hB := hR.lt
  have HR := Lib.hid hR
  have HM := Lib.hid hm
  clear hR hm
  go_enter Tryd.func41, Tryd.ntmps41
  go_wp2_with fail
  go_loopg [] (s.size + 1 - r.pos) (fun n wr => ∃ (q : Rd), q.pos ≤ s.size ∧ q.line ≤ q.pos ∧ q.ls ≤ q.pos ∧ Hid (n = s.size + 1 - q.pos) ∧ Hid (∃ f, s.size < f + q.pos ∧ skipK s f q = res) ∧ RdAt wr B g s q ∧ Keep B g w wr)
  case atStart => exact ⟨r, hp, hl, hls, rfl, ⟨_, by omega, HM.out⟩, HR.out, Keep.refl _ _ _⟩
  case round =>
    obtain ⟨q, hq, hql, hqls, HN, HC, hRq, hK⟩ := hrel
    have hgr : Gl wr := hg.keep hK (by omega) hg1
    obtain ⟨c0, c1, _⟩ := hRq.cells
    have f1 := hRq.frozen 1
    have HRq := Lib.hid hRq
    have HK := Lib.hid hK
    clear hRq hK hp hl hls
    by_cases hlt : q.pos < s.size
    · obtain ⟨f, hf, HC2⟩ : ∃ f, s.size ≤ f + q.pos ∧ Hid ((if fol s q.pos ⟨#[10]⟩ then skipK s f (lfM q)
          else if clsM (bt s q.pos) = 1 then skipK s f { q with pos := q.pos + 1 }
          else if fol s q.pos ⟨#[47, 47]⟩ then skipK s f { q with pos := lineEndM s q.pos }
          else if fol s q.pos ⟨#[47, 42]⟩ then
            match commentM s q with
            | none => .error ⟨q.pos, 27⟩
            | some r' => skipK s f r'
          else .ok (true, q)) = res) := by
        obtain ⟨f, hf, hc⟩ := HC.out
        cases f with
        | zero => omega
        | succ f => exact ⟨f, by omega, by rw [skipK, if_pos hlt] at hc; exact hc⟩
      clear HC
      have hb := bt_at s q.pos hlt
      by_cases hf1 : fol s q.pos ⟨#[10]⟩ = true
      · go_wp2_with fail
        go_quiet (fail)
        go_wp2_with (first | (go_at_call 50; refine (follows_any _ (HRq.out.drewN _) hq hs).mono ?_; rintro e w' ⟨rfl, n, rfl⟩) | (go_at_call 51; refine (lineFeed_any (HRq.out.drewN _) hq (by omega) hs).mono ?_; rintro e w2 ⟨rfl, h3, h4⟩))
        go_roundg (s.size + 1 - (q.pos + 1))
        case measure => have := HN.out; omega
        case rel =>
          refine ⟨lfM q, by show q.pos + 1 ≤ s.size; omega, by show q.line + 1 ≤ q.pos + 1; omega, by show q.pos + 1 ≤ q.pos + 1; omega, rfl, ⟨f, by show s.size < f + (q.pos + 1); omega, ?_⟩, h3, (HK.out.drewN _).trans h4⟩
          have := HC2.out
          rw [if_pos hf1] at this
          exact this
      · have hf1' : fol s q.pos ⟨#[10]⟩ = false := by simpa using hf1
        have HC3 : Hid ((if clsM (bt s q.pos) = 1 then skipK s f { q with pos := q.pos + 1 }
          else if fol s q.pos ⟨#[47, 47]⟩ then skipK s f { q with pos := lineEndM s q.pos }
          else if fol s q.pos ⟨#[47, 42]⟩ then
            match commentM s q with
            | none => .error ⟨q.pos, 27⟩
            | some r' => skipK s f r'
          else .ok (true, q)) = res) := by
          refine Lib.hid ?_
          have := HC2.out
          rw [if_neg hf1] at this
          exact this
        clear HC2 hf1
        by_cases hc1 : clsM (bt s q.pos) = 1
        · have t1 : (((clsM (bt s q.pos) : Nat) : Int) == 1) = true := by simp [hc1]
          have HF := Lib.hid hc1
          clear hc1
          go_wp2_with fail
          go_quiet (fail)
          go_wp2_with (go_at_call 50; refine (follows_any _ (HRq.out.drewN _) hq hs).mono ?_; rintro e w' ⟨rfl, n, rfl⟩)
          go_quiet ((go_at_call 22; exact quiet_add_left (class_any _ _ (hgr.drewN _))))
          go_wp2_with fail
          go_roundg (s.size + 1 - (q.pos + 1))
          case measure => have := HN.out; omega
          case rel =>
            refine ⟨{ q with pos := q.pos + 1 }, by show q.pos + 1 ≤ s.size; omega, by show q.line ≤ q.pos + 1; omega, by show q.ls ≤ q.pos + 1; omega, rfl, ⟨f, by show s.size < f + (q.pos + 1); omega, ?_⟩, (HRq.out.drewN _).pos' _, (HK.out.drewN _).at_ _ _⟩
            have := HC3.out
            rw [if_pos HF.out] at this
            exact this
        · have t1 : (((clsM (bt s q.pos) : Nat) : Int) == 1) = false := by simp; omega
          have HC4 : Hid ((if fol s q.pos ⟨#[47, 47]⟩ then skipK s f { q with pos := lineEndM s q.pos }
            else if fol s q.pos ⟨#[47, 42]⟩ then
              match commentM s q with
              | none => .error ⟨q.pos, 27⟩
              | some r' => skipK s f r'
            else .ok (true, q)) = res) := by
            refine Lib.hid ?_
            have := HC3.out
            rw [if_neg hc1] at this
            exact this
          clear HC3 hc1
          by_cases hf2 : fol s q.pos ⟨#[47, 47]⟩ = true
          · have hgt := lineEnd_gt hf2 hlt
            go_wp2_with fail
            go_quiet (fail)
            go_wp2_with (go_at_call 50; refine (follows_any _ (HRq.out.drewN _) hq hs).mono ?_; rintro e w' ⟨rfl, n, rfl⟩)
            go_quiet ((go_at_call 22; exact quiet_add_left (class_any _ _ (hgr.drewN _))))
            go_wp2_with (first | (go_at_call 50; refine (follows_any _ (HRq.out.drewN _) hq hs).mono ?_; rintro e w' ⟨rfl, n, rfl⟩) | (go_at_call 52; refine (lineComment_any (HRq.out.drewN _) hq hs).mono ?_; rintro e w2 ⟨rfl, h3, h4⟩))
            go_roundg (s.size + 1 - lineEndM s q.pos)
            case measure => have := HN.out; omega
            case rel =>
              refine ⟨{ q with pos := lineEndM s q.pos }, hgt.2, by show q.line ≤ lineEndM s q.pos; omega, by show q.ls ≤ lineEndM s q.pos; omega, rfl, ⟨f, by show s.size < f + lineEndM s q.pos; omega, ?_⟩, h3, (HK.out.drewN _).trans h4⟩
              have := HC4.out
              rw [if_pos hf2] at this
              exact this
          · have hf2' : fol s q.pos ⟨#[47, 47]⟩ = false := by simpa using hf2
            have HC5 : Hid ((if fol s q.pos ⟨#[47, 42]⟩ then
                match commentM s q with
                | none => .error ⟨q.pos, 27⟩
                | some r' => skipK s f r'
              else .ok (true, q)) = res) := by
              refine Lib.hid ?_
              have := HC4.out
              rw [if_neg hf2] at this
              exact this
            clear HC4 hf2
            by_cases hf3 : fol s q.pos ⟨#[47, 42]⟩ = true
            · go_wp2_with fail
              go_quiet (fail)
              go_wp2_with (go_at_call 50; refine (follows_any _ (HRq.out.drewN _) hq hs).mono ?_; rintro e w' ⟨rfl, n, rfl⟩)
              go_quiet ((go_at_call 22; exact quiet_add_left (class_any _ _ (hgr.drewN _))))
              go_wp2_with (go_at_call 50; refine (follows_any _ (HRq.out.drewN _) hq hs).mono ?_; rintro e w' ⟨rfl, n, rfl⟩)
              refine (comment_any (HRq.out.drewN _) hq hql hs hf3).mono ?_
              rintro e w2 h
              cases hc : commentM s q with
              | none =>
                have hm := HC5.out
                rw [if_pos hf3, hc] at hm
                rw [hc] at h
                obtain ⟨rfl, h4⟩ := h
                subst hm
                clear HC5
                go_wp2_with fail
                exact ⟨rfl, rfl, (HK.out.drewN _).trans h4⟩
              | some r' =>
                have hm := HC5.out
                rw [if_pos hf3, hc] at hm
                rw [hc] at h
                obtain ⟨rfl, h3, h4⟩ := h
                have hmv := commentM_moved hc hq hql hqls
                have HM5 := Lib.hid hm
                have HC6 := Lib.hid hc
                clear HC5 hm hc
                go_wp2_with fail
                go_roundg (s.size + 1 - r'.pos)
                case measure => have := HN.out; have := hmv.gt; have := hmv.le; omega
                case rel => exact ⟨r', hmv.le, hmv.line, hmv.ls, rfl, ⟨f, by have := hmv.gt; omega, HM5.out⟩, h3, (HK.out.drewN _).trans h4⟩
            · have hf3' : fol s q.pos ⟨#[47, 42]⟩ = false := by simpa using hf3
              have ho : res = .ok (true, q) := by have := HC5.out; rw [if_neg hf3] at this; exact this.symm
              subst ho
              clear HC5 hf3
              go_wp2_with fail
              go_quiet (fail)
              go_wp2_with (go_at_call 50; refine (follows_any _ (HRq.out.drewN _) hq hs).mono ?_; rintro e w' ⟨rfl, n, rfl⟩)
              go_quiet ((go_at_call 22; exact quiet_add_left (class_any _ _ (hgr.drewN _))))
              go_wp2_with (go_at_call 50; refine (follows_any _ (HRq.out.drewN _) hq hs).mono ?_; rintro e w' ⟨rfl, n, rfl⟩)
              go_ret
              exact ⟨rfl, HRq.out.drewN _, HK.out.drewN _⟩
    · have hge : decide (q.pos < s.size) = false := by simpa using hlt
      have ho : res = .ok (false, q) := by
        obtain ⟨f, hf, hc⟩ := HC.out
        cases f with
        | zero => omega
        | succ f => rw [skipK, if_neg hlt] at hc; exact hc.symm
      subst ho
      have HL := Lib.hid hlt
      clear hlt
      go_wp2_with fail
      go_quiet (fail)
      go_wp2_with fail
      go_ret
      exact ⟨rfl, HRq.out.drewN _, HK.out.drewN _⟩
end
end Go.Proofs.YtcdidmohgcegmaaDoor
