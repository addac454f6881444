/- Contracts of char, plain, part. Conditions: the reader lies at block g, its numbers are small. -/
import Derived.Test.YtcdidmohgcegmaaDoorRdc
import Derived.Test.YtcdidmohgcegmaaDoorChb
import Derived.Deep.Light
namespace Go.Proofs.YtcdidmohgcegmaaDoor
open Go.RowKit
set_option maxRecDepth 100000
attribute [local go_sem ↓ high] builtin_app
section
variable {B g : Nat} {s : ByteArray} {r : Rd} {w : World}

theorem charsK_le {s : ByteArray} {e o : Int} {st : Nat} : ∀ {k p : Nat} {acc l : List UInt8} {p' : Nat}, charsK s e o st k p acc = .ok (l, p') → p ≤ p' ∧ p' < s.size
  | 0, _, _, _, _, h => by cases h
  | k + 1, p, acc, l, p', h => by
    unfold charsK at h
    split at h
    · rename_i hc
      split at h
      · cases h; exact ⟨Nat.le_refl _, hc.1⟩
      · split at h
        · cases h
        · rename_i b q hq
          have := characterM_lt hq hc.1
          have h2 := charsK_le h
          omega
    · cases h
theorem charsM_le {s : ByteArray} {e o : Int} {st p p' : Nat} {l : List UInt8} (h : charsM s e o st p = .ok (l, p')) : p ≤ p' ∧ p' < s.size := charsK_le h

set_option maxHeartbeats 800000 in
theorem plain_any (hR : RdAt w B g s r) (hp : r.pos < s.size) (hs : s.size ≤ 100000) (hst : r.start ≤ s.size) (hl : r.ls ≤ r.start) (hn : r.list.length ≤ 1000000) :
    Calls Tryd.prog 70 #[.pointer (some ⟨g, 0, none⟩)] w (Out w B g s (plainM s r)) := by
  generalize hm : plainM s r = res
  unfold plainM at hm
  obtain ⟨_, c1, _⟩ := hR.cells
  have f1 := hR.frozen 1
  have HR := Lib.hid hR
  have HM := Lib.hid hm
  clear hR hm
  go_enter Tryd.func70, Tryd.ntmps70
  go_wp2_with fail
  refine (chars_any 34 34 (HR.out.pos' (r.pos + 1)) (by show r.pos + 1 ≤ s.size; omega) hs).mono ?_
  rintro e w2 h
  change SOut _ B g s _ (charsM s 34 34 r.start (r.pos + 1)) e w2 at h
  have hm := HM.out
  cases hc : charsM s 34 34 r.start (r.pos + 1) with
  | error f =>
    rw [hc] at h hm
    obtain ⟨rfl, h4⟩ := h
    subst hm
    clear HM
    go_wp2_with fail
    exact ⟨rfl, rfl, ((Keep.refl _ _ _).at_ _ _).trans h4⟩
  | ok x =>
    obtain ⟨l, p⟩ := x
    rw [hc] at h hm
    obtain ⟨rfl, h3, h4⟩ := h
    have hpp := charsM_le hc
    have H3 := Lib.hid h3
    have H4 := Lib.hid h4
    obtain ⟨_, q1, _⟩ := h3.cells
    subst hm
    clear HM hc h3 h4
    go_wp2_with fail
    refine (put_any _ _ (p + 1) H3.out (by show r.start ≤ _; omega) hl hn).mono ?_
    rintro e w3 ⟨rfl, h5, h6⟩
    go_wp2_with fail
    go_end0
    exact ⟨rfl, h5, (((Keep.refl _ _ _).at_ _ _).trans H4.out).trans h6⟩

set_option maxHeartbeats 800000 in
theorem char_any (hR : RdAt w B g s r) (hp : r.pos < s.size) (hs : s.size ≤ 100000) (hst : r.start ≤ s.size) (hl : r.ls ≤ r.start) (hn : r.list.length ≤ 1000000) (ho : r.opn.length ≤ 64) :
    Calls Tryd.prog 69 #[.pointer (some ⟨g, 0, none⟩)] w (Out w B g s (charM s r)) := by
  generalize hm : charM s r = res
  unfold charM at hm
  obtain ⟨_, c1, c2, _⟩ := hR.cells
  have f1 := hR.frozen 1
  have HR := Lib.hid hR
  by_cases hf : fol s r.pos ⟨#[39, 123]⟩ = true
  · rw [if_pos hf] at hm
    have HM := Lib.hid hm
    clear hR hm
    go_enter Tryd.func69, Tryd.ntmps69
    go_wp2_with fail
    refine (follows_any _ HR.out (by omega) hs).mono ?_
    rintro e w' ⟨rfl, n, rfl⟩
    go_wp2_with fail
    refine (putMark_any _ (HR.out.drewN n) (by have : (⟨#[39, 123]⟩ : ByteArray).size = 2 := rfl; omega) hl hn ho).mono ?_
    rintro e w2 h
    rw [HM.out] at h
    cases res with
    | error f =>
      obtain ⟨rfl, h4⟩ := h
      go_wp2_with fail
      exact ⟨rfl, rfl, ((Keep.refl _ _ _).drewN _).trans h4⟩
    | ok r' =>
      obtain ⟨rfl, h3, h4⟩ := h
      go_wp2_with fail
      first | go_end0 | refine bodyPost_ret (results_none rfl _ _ _) rfl ?_
      exact ⟨rfl, h3, ((Keep.refl _ _ _).drewN _).trans h4⟩
  · rw [if_neg hf] at hm
    have hf' : fol s r.pos ⟨#[39, 123]⟩ = false := by simpa using hf
    have HM := Lib.hid hm
    clear hR hm hf
    go_enter Tryd.func69, Tryd.ntmps69
    go_wp2_with fail
    refine (follows_any _ HR.out (by omega) hs).mono ?_
    rintro e w' ⟨rfl, n, rfl⟩
    go_wp2_with fail
    refine (chars_any 39 39 ((HR.out.drewN n).pos' (r.pos + 1)) (by show r.pos + 1 ≤ s.size; omega) hs).mono ?_
    rintro e w2 h
    change SOut _ B g s _ (charsM s 39 39 r.start (r.pos + 1)) e w2 at h
    have hm := HM.out
    cases hc : charsM s 39 39 r.start (r.pos + 1) with
    | error f =>
      rw [hc] at h hm
      obtain ⟨rfl, h4⟩ := h
      subst hm
      clear HM
      go_wp2_with fail
      exact ⟨rfl, rfl, (((Keep.refl _ _ _).drewN _).at_ _ _).trans h4⟩
    | ok x =>
      obtain ⟨l, p⟩ := x
      rw [hc] at h hm
      obtain ⟨rfl, h3, h4⟩ := h
      have hpp := charsM_le hc
      have H3 := Lib.hid h3
      have H4 := Lib.hid h4
      obtain ⟨_, q1, q2, _⟩ := h3.cells
      have hsz : (bytesOf l).size = l.length := rfl
      by_cases h1 : l.length = 1
      · replace hm : res = .ok (putM r 6 (bytesOf l) (p + 1)) := by rw [← hm]; simp [h1]
        subst hm
        have t1 : (((bytesOf l).size : Int) != 1) = false := by rw [hsz]; simp [h1]
        clear HM hc h3 h4 h1 hsz
        go_wp2_with fail
        refine (put_any _ _ (p + 1) H3.out (by show r.start ≤ _; omega) hl hn).mono ?_
        rintro e w3 ⟨rfl, h5, h6⟩
        go_wp2_with fail
        go_end0
        exact ⟨rfl, h5, ((((Keep.refl _ _ _).drewN _).at_ _ _).trans H4.out).trans h6⟩
      · replace hm : res = .error ⟨r.start, 27⟩ := by rw [← hm]; simp [h1]
        subst hm
        have t1 : (((bytesOf l).size : Int) != 1) = true := by rw [hsz]; simp; omega
        clear HM hc h3 h4 h1 hsz
        go_wp2_with (go_at_call 49; refine (fail_any _ _ _).mono ?_; rintro e w' ⟨rfl, rfl⟩)
        exact ⟨rfl, rfl, (((Keep.refl _ _ _).drewN _).at_ _ _).trans H4.out⟩

/-- How 'part' ends. -/
def POut (w : World) (B g : Nat) (s : ByteArray) (o : Except Flt (Bool × Rd)) (e : Ending) (w' : World) : Prop :=
  match o with
  | .ok (b, r') => e = .returned (.bool b) ∧ RdAt w' B g s r' ∧ Keep B g w w'
  | .error f => e = .panicked [{ v := .iface 28 (fltV f), recovered := false }] ∧ Keep B g w w'

set_option maxHeartbeats 800000 in
theorem part_any (hR : RdAt w B g s r) (hp : r.pos ≤ s.size) (hs : s.size ≤ 100000) (hl : r.ls ≤ r.pos) (hn : r.list.length ≤ 1000000) :
    Calls Tryd.prog 95 #[.pointer (some ⟨g, 0, none⟩)] w (POut w B g s (partM s r)) := by
  generalize hm : partM s r = res
  unfold partM at hm
  obtain ⟨c0, c1, c2, _⟩ := hR.cells
  have f2 := hR.frozen 2
  have HR := Lib.hid hR
  have HM := Lib.hid hm
  clear hR hm
  go_enter Tryd.func95, Tryd.ntmps95
  go_wp2_with fail
  refine (chars_any 34 36 (HR.out.start' r.pos) hp hs).mono ?_
  rintro e w2 h
  change SOut _ B g s _ (charsM s 34 36 r.pos r.pos) e w2 at h
  have hm := HM.out
  cases hc : charsM s 34 36 r.pos r.pos with
  | error f =>
    rw [hc] at h hm
    obtain ⟨rfl, h4⟩ := h
    subst hm
    clear HM
    go_wp2_with fail
    exact ⟨rfl, rfl, ((Keep.refl _ _ _).at_ _ _).trans h4⟩
  | ok x =>
    obtain ⟨l, p⟩ := x
    rw [hc] at h hm
    obtain ⟨rfl, h3, h4⟩ := h
    have hpp := charsM_le hc
    have H3 := Lib.hid h3
    have H4 := Lib.hid h4
    obtain ⟨_, q1, _⟩ := h3.cells
    subst hm
    clear HM hc h3 h4
    go_wp2_with fail
    refine (put_any _ _ p H3.out (by show r.pos ≤ _; omega) hl hn).mono ?_
    rintro e w3 ⟨rfl, h5, h6⟩
    have H5 := Lib.hid h5
    obtain ⟨p0, p1, _⟩ := h5.cells
    replace p1 : w3.cell? ⟨g, 1, none⟩ = some (I p) := p1
    clear h5
    have hb := bt_at s p hpp.2
    go_wp2_with fail
    go_quiet (fail)
    go_wp2_with fail
    go_ret
    refine ⟨ret_bool (by rw [Bool.eq_iff_iff]; simp; omega), H5.out.drewN _, ((((Keep.refl _ _ _).at_ _ _).trans H4.out).trans h6).drewN _⟩
end
end Go.Proofs.YtcdidmohgcegmaaDoor
