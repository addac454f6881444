/- Contracts of interpolated, word, token. -/
import Derived.Test.YtcdidmohgcegmaaDoorIna
import Derived.Test.YtcdidmohgcegmaaDoorNmc
namespace Go.Proofs.YtcdidmohgcegmaaDoor
open Go.RowKit
set_option maxRecDepth 100000
attribute [local go_sem ↓ high] builtin_app
section
variable {B g : Nat} {s : ByteArray} {r : Rd} {w : World}

set_option maxHeartbeats 1600000 in
theorem interp_any (n : Nat) (hT : TokOk s B g n) (hR : RdAt w B g s r) (hI : Inv 0 s r) (hs : s.size ≤ 100000) (hn : s.size - (r.pos + 2) < n) (hg : Gl w) (hg1 : 2 < g) :
    Calls Tryd.prog 89 #[.pointer (some ⟨g, 0, none⟩)] w (Out w B g s (interpM (tokenM s n) s r)) := by
  generalize hm : interpM (tokenM s n) s r = res
  unfold interpM at hm
  have hB := hR.lt
  have HR := Lib.hid hR
  have HM := Lib.hid hm
  have HT := Lib.hid hT
  have hpp := hI.pos
  have HI0 := Lib.hid hI
  clear hR hm hT hI
  go_enter Tryd.func89, Tryd.ntmps89
  go_wp2_with fail
  go_loopg [] (s.size + 1 - r.pos) (fun k wr => ∃ q : Rd, Inv 0 s q ∧ Hid (r.pos ≤ q.pos) ∧ Hid (k = s.size + 1 - q.pos) ∧ Hid (∃ f, s.size < f + q.pos ∧ interpK (tokenM s n) s f q = res) ∧ RdAt wr B g s q ∧ Keep B g w wr)
  case atStart => exact ⟨r, HI0.out, Nat.le_refl _, rfl, ⟨_, by omega, HM.out⟩, HR.out, Keep.refl _ _ _⟩
  case round =>
    obtain ⟨q, hIq, hqq, HN, HF, hRq, hK⟩ := hrel
    have HRq := Lib.hid hRq
    have HK := Lib.hid hK
    have HIq := Lib.hid hIq
    have hgr : Gl wr := hg.keep hK (by omega) hg1
    have hqp := hIq.pos
    obtain ⟨f, hf, HC2⟩ : ∃ f, s.size ≤ f + q.pos ∧ Hid ((match partM s q with
        | .error f => .error f
        | .ok (false, r') => .ok (putM { r' with start := r'.pos } 10 ⟨#[]⟩ (r'.pos + 1))
        | .ok (true, r') => match exprM (tokenM s n) s r' with
          | .error f => .error f
          | .ok r'' => interpK (tokenM s n) s f r'') = res) := by
      obtain ⟨f, hf, hc⟩ := HF.out
      cases f with
      | zero => omega
      | succ f => exact ⟨f, by omega, by rw [interpK] at hc; exact hc⟩
    clear HF hRq hK hIq
    go_wp2_with fail
    refine (part_any HRq.out hqp hs HIq.out.ls (by have := HIq.out.len; omega)).mono ?_
    rintro e w2 h
    have hm := HC2.out
    cases hpt : partM s q with
    | error f =>
      rw [hpt] at h hm
      obtain ⟨rfl, h4⟩ := h
      subst hm
      clear HC2
      go_wp2_with fail
      exact ⟨rfl, rfl, HK.out.trans h4⟩
    | ok x =>
      obtain ⟨b, q2⟩ := x
      rw [hpt] at h hm
      obtain ⟨rfl, h5, h6⟩ := h
      have hi2 := partM_inv hpt HIq.out
      have HH5 := Lib.hid h5
      have HH6 := Lib.hid h6
      have HI2 := Lib.hid hi2
      obtain ⟨_, d1, d2, _⟩ := h5.cells
      have f2 := h5.frozen 2
      have hq2 := hi2.2.2
      have hq21 := hi2.2.1
      clear HC2 h5 h6 hi2 hpt
      cases b with
      | false =>
        replace hm : .ok (putM { q2 with start := q2.pos } 10 ⟨#[]⟩ (q2.pos + 1)) = res := hm
        subst hm
        go_wp2_with fail
        refine (put_any 10 _ (q2.pos + 1) (HH5.out.start' q2.pos) (by show q2.pos ≤ _; omega) (by show q2.ls ≤ q2.pos; exact HI2.out.1.ls) (by show q2.list.length ≤ _; have := HI2.out.1.len; omega)).mono ?_
        rintro e w3 ⟨rfl, h7, h8⟩
        go_wp2_with fail
        go_end0
        exact ⟨rfl, h7, ((HK.out.trans HH6.out).at_ _ _).trans h8⟩
      | true =>
        have hm3 := Lib.hid hm
        clear hm
        go_wp2_with fail
        refine (expr_any n HT.out HH5.out HI2.out.1 hs hq2 (by have := hqq.out; omega) (hgr.keep HH6.out (by omega) hg1) hg1).mono ?_
        rintro e w3 h
        cases hex : exprM (tokenM s n) s q2 with
        | error f =>
          have hm := hm3.out
          rw [hex] at h
          simp only [hex] at hm
          obtain ⟨rfl, h7⟩ := h
          subst hm
          clear hm3
          go_wp2_with fail
          exact ⟨rfl, rfl, (HK.out.trans HH6.out).trans h7⟩
        | ok q3 =>
          have hm := hm3.out
          rw [hex] at h
          simp only [hex] at hm
          obtain ⟨rfl, h7, h8⟩ := h
          have hi3 := exprM_inv (tokenM_inv s n) hex HI2.out.1 hq2
          have HI3 := Lib.hid hi3
          have HM3 := Lib.hid hm
          clear hm hi3 hex hm3
          go_wp2_with fail
          go_roundg (s.size + 1 - q3.pos)
          case measure => have := HN.out; have := HI3.out.2; have := HI3.out.1.pos; omega
          case rel =>
            exact ⟨q3, HI3.out.1, by have := hqq.out; have := HI3.out.2; show r.pos ≤ q3.pos; omega, rfl, ⟨f, by have := HI3.out.2; omega, HM3.out⟩, h7, (HK.out.trans HH6.out).trans h8⟩
end
end Go.Proofs.YtcdidmohgcegmaaDoor
