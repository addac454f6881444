/- Contracts of comment and skip. -/
import Derived.Test.YtcdidmohgcegmaaDoorRdc
import Derived.Deep.Light
namespace Go.Proofs.YtcdidmohgcegmaaDoor
open Go.RowKit
set_option maxRecDepth 100000
attribute [local go_sem ↓ high] builtin_app
section
variable {B g : Nat} {s : ByteArray} {r : Rd} {w : World}

theorem fol_size {s : ByteArray} {p : Nat} {l : ByteArray} (h : fol s p l = true) (hp : p ≤ s.size) : p + l.size ≤ s.size := by
  unfold fol hpM at h
  simp only [Bool.and_eq_true, decide_eq_true_eq] at h
  have := h.1
  rw [ByteArray.size_extract] at this
  omega

/-- How a method ends that hands back the reader or fails. -/
def OOut (w : World) (B g : Nat) (s : ByteArray) (st : Nat) (o : Option Rd) (e : Ending) (w' : World) : Prop :=
  match o with
  | some r' => e = .returned (.tuple #[]) ∧ RdAt w' B g s r' ∧ Keep B g w w'
  | none => e = .panicked [{ v := .iface 28 (fltV ⟨st, 27⟩), recovered := false }] ∧ Keep B g w w'


set_option maxHeartbeats 1600000 in
theorem comment_any (hR : RdAt w B g s r) (hp : r.pos ≤ s.size) (hl : r.line ≤ r.pos) (hs : s.size ≤ 100000) (hst : fol s r.pos ⟨#[47, 42]⟩ = true) :
    Calls Tryd.prog 53 #[.pointer (some ⟨g, 0, none⟩)] w (OOut w B g s r.pos (commentM s r)) := by
  generalize hm : commentM s r = o
  unfold commentM at hm
  obtain ⟨_, c1, _⟩ := hR.cells
  have HR := Lib.hid hR
  clear hR
  have HM := Lib.hid hm
  clear hm
  have HS := Lib.hid hst
  clear hst
  go_enter Tryd.func53, Tryd.ntmps53
  go_wp2_with fail
  go_loopg [3] (s.size + 1 - r.pos) (fun n v wr => ∃ (q : Rd) (d : Nat), q.pos ≤ s.size ∧ q.line ≤ q.pos ∧ d ≤ q.pos ∧ v = I d ∧ Hid (n = s.size + 1 - q.pos) ∧ Hid (∃ f, s.size < f + q.pos ∧ commentK s f q d = o) ∧ Hid (0 < d ∨ fol s q.pos ⟨#[47, 42]⟩ = true) ∧ RdAt wr B g s q ∧ Keep B g w wr)
  case atStart => exact ⟨r, 0, hp, hl, Nat.zero_le _, rfl, rfl, ⟨_, by omega, HM.out⟩, .inr HS.out, HR.out, Keep.refl _ _ _⟩
  case round =>
    obtain ⟨q, d, hq, hql, hd, rfl, HN, HC, HD, hRq, hK⟩ := hrel
    obtain ⟨c0, c1, _⟩ := hRq.cells
    have f1 := hRq.frozen 1
    have HR := Lib.hid hRq
    have HK := Lib.hid hK
    clear hRq hK
    by_cases hlt : q.pos < s.size
    · obtain ⟨f, hf, HC2⟩ : ∃ f, s.size ≤ f + q.pos ∧ Hid ((if fol s q.pos ⟨#[47, 42]⟩ then commentK s f { q with pos := q.pos + 2 } (d + 1)
          else if fol s q.pos ⟨#[42, 47]⟩ then (if d - 1 = 0 then some { q with pos := q.pos + 2 } else commentK s f { q with pos := q.pos + 2 } (d - 1))
          else if fol s q.pos ⟨#[10]⟩ then commentK s f (lfM q) d
          else commentK s f { q with pos := q.pos + 1 } d) = o) := by
        obtain ⟨f, hf, hc⟩ := HC.out
        cases f with
        | zero => omega
        | succ f => exact ⟨f, by omega, by rw [commentK, if_pos hlt] at hc; exact hc⟩
      clear HC
      by_cases hf1 : fol s q.pos ⟨#[47, 42]⟩ = true
      · have hsz : q.pos + 2 ≤ s.size := fol_size hf1 hq
        have ht : (((d : Int) + 1) == 0) = false := by simp; omega
        go_wp2_with fail
        go_quiet (fail)
        go_wp2_with (go_at_call 50; refine (follows_any _ (HR.out.drewN _) hq hs).mono ?_; rintro e w' ⟨rfl, n, rfl⟩)
        go_roundg (s.size + 1 - (q.pos + 2))
        case measure => have := HN.out; omega
        case rel =>
          refine ⟨{ q with pos := q.pos + 2 }, d + 1, hsz, by show q.line ≤ q.pos + 2; omega, by show d + 1 ≤ q.pos + 2; omega, by go_num, rfl, ⟨f, by show s.size < f + (q.pos + 2); omega, ?_⟩, .inl (by omega), (HR.out.drewN _).pos' _, (HK.out.drewN _).setCell (.inl rfl) _⟩
          have := HC2.out
          rw [if_pos hf1] at this
          exact this
      · have hd0 : 0 < d := by
          rcases HD.out with h | h
          · exact h
          · exact absurd h hf1
        have hf1' : fol s q.pos ⟨#[47, 42]⟩ = false := by simpa using hf1
        have hne : ((d : Int) == 0) = false := by simp; omega
        have HC3 : Hid ((if fol s q.pos ⟨#[42, 47]⟩ then (if d - 1 = 0 then some { q with pos := q.pos + 2 } else commentK s f { q with pos := q.pos + 2 } (d - 1))
          else if fol s q.pos ⟨#[10]⟩ then commentK s f (lfM q) d
          else commentK s f { q with pos := q.pos + 1 } d) = o) := by
          refine Lib.hid ?_
          have := HC2.out
          rw [if_neg hf1] at this
          exact this
        clear HC2 HD hf1
        by_cases hf2 : fol s q.pos ⟨#[42, 47]⟩ = true
        · have hsz : q.pos + 2 ≤ s.size := fol_size hf2 hq
          have HC4 : Hid ((if d - 1 = 0 then some { q with pos := q.pos + 2 } else commentK s f { q with pos := q.pos + 2 } (d - 1)) = o) := by
            refine Lib.hid ?_
            have := HC3.out
            rw [if_pos hf2] at this
            exact this
          clear HC3
          obtain ⟨d', rfl⟩ : ∃ d', d = d' + 1 := ⟨d - 1, by omega⟩
          by_cases h1 : d' = 0
          · subst h1
            have ho : o = some { q with pos := q.pos + 2 } := by have := HC4.out; simpa using this.symm
            subst ho
            clear HC4 hne
            go_wp2_with fail
            go_quiet (fail)
            go_wp2_with (go_at_call 50; refine (follows_any _ (HR.out.drewN _) hq hs).mono ?_; rintro e w' ⟨rfl, n, rfl⟩)
            first | go_end0 | refine bodyPost_ret (results_none rfl _ _ _) rfl ?_
            exact ⟨rfl, (HR.out.drewN _).pos' _, (HK.out.drewN _).at_ _ _⟩
          · have ht : ((d' : Int) == 0) = false := by simpa using h1
            have ht2 : (((d' : Int) + 1 - 1) == 0) = false := by simp; omega
            have e1 : IntKind.i64.wrap ((((d' + 1 : Nat) : Int)) - 1) = (d' : Int) := by rw [show (((d' + 1 : Nat) : Int)) - 1 = (d' : Int) by omega]; exact IntWalk.i64_in _ (by omega)
            go_wp2_with fail
            go_quiet (fail)
            go_wp2_with (go_at_call 50; refine (follows_any _ (HR.out.drewN _) hq hs).mono ?_; rintro e w' ⟨rfl, n, rfl⟩)
            go_roundg (s.size + 1 - (q.pos + 2))
            case measure => have := HN.out; omega
            case rel =>
              refine ⟨{ q with pos := q.pos + 2 }, d', hsz, by show q.line ≤ q.pos + 2; omega, by show d' ≤ q.pos + 2; omega, by go_num, rfl, ⟨f, by show s.size < f + (q.pos + 2); omega, ?_⟩, .inl (by omega), (HR.out.drewN _).pos' _, (HK.out.drewN _).at_ _ _⟩
              have := HC4.out
              rw [Nat.add_sub_cancel, if_neg h1] at this
              exact this
        · have hf2' : fol s q.pos ⟨#[42, 47]⟩ = false := by simpa using hf2
          have HC4 : Hid ((if fol s q.pos ⟨#[10]⟩ then commentK s f (lfM q) d else commentK s f { q with pos := q.pos + 1 } d) = o) := by
            refine Lib.hid ?_
            have := HC3.out
            rw [if_neg hf2] at this
            exact this
          clear HC3 hf2
          by_cases hf3 : fol s q.pos ⟨#[10]⟩ = true
          · go_wp2_with fail
            go_quiet (fail)
            go_wp2_with (first | (go_at_call 50; refine (follows_any _ (HR.out.drewN _) hq hs).mono ?_; rintro e w' ⟨rfl, n, rfl⟩) | (go_at_call 51; refine (lineFeed_any (HR.out.drewN _) hq (by omega) hs).mono ?_; rintro e w2 ⟨rfl, h3, h4⟩))
            go_roundg (s.size + 1 - (q.pos + 1))
            case measure => have := HN.out; omega
            case rel =>
              refine ⟨lfM q, d, by show q.pos + 1 ≤ s.size; omega, by show q.line + 1 ≤ q.pos + 1; omega, by show d ≤ q.pos + 1; omega, rfl, rfl, ⟨f, by show s.size < f + (q.pos + 1); omega, ?_⟩, .inl hd0, h3, (HK.out.drewN _).trans h4⟩
              have := HC4.out
              rw [if_pos hf3] at this
              exact this
          · have hf3' : fol s q.pos ⟨#[10]⟩ = false := by simpa using hf3
            have HF := Lib.hid hf3
            clear hf3
            go_wp2_with fail
            go_quiet (fail)
            go_wp2_with (go_at_call 50; refine (follows_any _ (HR.out.drewN _) hq hs).mono ?_; rintro e w' ⟨rfl, n, rfl⟩)
            go_roundg (s.size + 1 - (q.pos + 1))
            case measure => have := HN.out; omega
            case rel =>
              refine ⟨{ q with pos := q.pos + 1 }, d, by show q.pos + 1 ≤ s.size; omega, by show q.line ≤ q.pos + 1; omega, by show d ≤ q.pos + 1; omega, rfl, rfl, ⟨f, by show s.size < f + (q.pos + 1); omega, ?_⟩, .inl hd0, (HR.out.drewN _).pos' _, (HK.out.drewN _).at_ _ _⟩
              have := HC4.out
              rw [if_neg HF.out] at this
              exact this
    · have hge : decide (q.pos < s.size) = false := by simpa using hlt
      have ho : o = none := by
        obtain ⟨f, hf, hc⟩ := HC.out
        cases f with
        | zero => omega
        | succ f => rw [commentK, if_neg hlt] at hc; exact hc.symm
      subst ho
      have HL := Lib.hid hlt
      clear hlt
      go_wp2_with fail
      go_quiet (fail)
      go_wp2_with (go_at_call 49; refine (fail_any _ _ _).mono ?_; rintro e w' ⟨rfl, rfl⟩)
      exact ⟨rfl, rfl, HK.out.drewN _⟩
end
end Go.Proofs.YtcdidmohgcegmaaDoor
