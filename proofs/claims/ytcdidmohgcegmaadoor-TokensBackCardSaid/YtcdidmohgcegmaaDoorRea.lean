/- Contract of read: it returns the tokens of the text as the model has them, or panics with the model's fault. -/
import Derived.Test.YtcdidmohgcegmaaDoorInc
import Derived.Test.YtcdidmohgcegmaaDoorNum
namespace Go.Proofs.YtcdidmohgcegmaaDoor
open Go.RowKit
set_option maxRecDepth 100000
attribute [local go_sem ↓ high] builtin_app
section
variable {B g : Nat} {s : ByteArray} {r : Rd} {w : World}

def ROut (w : World) (B g : Nat) (o : Except Flt (List Tok)) (e : Ending) (w' : World) : Prop :=
  match o with
  | .ok l => ∃ lv, e = .returned lv ∧ w'.ownsRow B 34 5 lv l.length (l.flatMap Tok.cells) ∧ Keep B g w w'
  | .error f => e = .panicked [{ v := .iface 28 (fltV f), recovered := false }] ∧ Keep B g w w'

theorem RdAt.listCell (h : RdAt w B g s r) : ∃ lv, w.cell? ⟨g, 6, none⟩ = some lv ∧ w.ownsRow B 34 5 lv r.list.length (r.list.flatMap Tok.cells) := by
  obtain ⟨ov, lv, hg, hlt, hle, ho, hl2⟩ := h
  exact ⟨lv, by simp [cell_of_row w g _ _ _ _ hg], hl2⟩

set_option maxHeartbeats 1600000 in
theorem read_any (hR : RdAt w B g s ⟨0, 0, 0, 0, [], []⟩) (hg : Gl w) (hg1 : 2 < g) :
    Calls Tryd.prog 28 #[.pointer (some ⟨g, 0, none⟩)] w (ROut w B g (rawM s)) := by
  generalize hm : rawM s = res
  unfold rawM at hm
  obtain ⟨c0, _⟩ := hR.cells
  have hB := hR.lt
  have HR := Lib.hid hR
  clear hR
  cases hck : checkM s with
  | error f =>
    rw [hck] at hm
    subst hm
    go_enter Tryd.func28, Tryd.ntmps28
    go_wp2_with fail
    refine (check_any s w).mono ?_
    rintro e w' h
    rw [hck] at h
    obtain ⟨rfl, rfl⟩ := h
    clear hck
    go_wp2_with fail
    exact ⟨rfl, rfl, Keep.refl _ _ _⟩
  | ok u =>
    have hs : s.size ≤ 65536 := by
      unfold checkM at hck
      split at hck
      · cases hck
      · omega
    rw [hck] at hm
    replace hm : readK s (s.size + 2) ⟨0, 0, 0, 0, [], []⟩ = res := hm
    have HM := Lib.hid hm
    have HCK := Lib.hid hck
    clear hm hck
    go_enter Tryd.func28, Tryd.ntmps28
    go_wp2_with fail
    refine (check_any s w).mono ?_
    rintro e w' h
    rw [HCK.out] at h
    obtain ⟨rfl, rfl⟩ := h
    go_wp2_with fail
    go_loopg [] (s.size + 2) (fun k wr => ∃ q : Rd, Inv 0 s q ∧ Hid (k = s.size + 2 - q.pos) ∧ Hid (∃ f, s.size < f + q.pos ∧ readK s f q = res) ∧ RdAt wr B g s q ∧ Keep B g w wr)
    case atStart => exact ⟨⟨0, 0, 0, 0, [], []⟩, ⟨by simp, by simp, by simp, by simp, by simp⟩, rfl, ⟨s.size + 2, by simp, HM.out⟩, HR.out, Keep.refl _ _ _⟩
    case round =>
      obtain ⟨q, hIq, HN, HF, hRq, hK⟩ := hrel
      have HRq := Lib.hid hRq
      have HK := Lib.hid hK
      have HIq := Lib.hid hIq
      have hgr : Gl wr := hg.keep hK (by omega) hg1
      have hqp := hIq.pos
      obtain ⟨f, hf, HC2⟩ : ∃ f, s.size ≤ f + q.pos ∧ Hid ((match skipM s q with
          | .error f => .error f
          | .ok (false, r') => if r'.opn.length = 0 then .ok r'.list else .error ⟨(lastOp r').2, 27⟩
          | .ok (true, r') => match tokenM s (s.size + 1 - r'.pos) r' with
            | .error f => .error f
            | .ok r'' => readK s f r'') = res) := by
        obtain ⟨f, hf, hc⟩ := HF.out
        cases f with
        | zero => omega
        | succ f => exact ⟨f, by omega, by rw [readK] at hc; exact hc⟩
      clear HF hRq hK hIq c0
      go_wp2_with fail
      refine (skip_any HRq.out HIq.out.pos HIq.out.line HIq.out.ls (by omega) hgr hg1).mono ?_
      rintro e w2 h
      have hm := HC2.out
      cases hsk : skipM s q with
      | error f =>
        rw [hsk] at h hm
        obtain ⟨rfl, h4⟩ := h
        subst hm
        clear HC2
        go_wp2_with fail
        exact ⟨rfl, rfl, HK.out.trans h4⟩
      | ok x =>
        obtain ⟨b, q2⟩ := x
        rw [hsk] at h hm
        obtain ⟨rfl, h5, h6⟩ := h
        have hi2 := skipM_inv hsk HIq.out
        have HH5 := Lib.hid h5
        have HH6 := Lib.hid h6
        have HI2 := Lib.hid hi2
        clear HC2 h5 h6 hi2 hsk
        cases b with
        | false =>
          replace hm : (if q2.opn.length = 0 then .ok q2.list else .error ⟨(lastOp q2).2, 27⟩) = res := hm
          obtain ⟨A, cap, d5⟩ := HH5.out.opnCell
          obtain ⟨lv, d6, hown⟩ := HH5.out.listCell
          have HOw := Lib.hid hown
          clear hown
          by_cases h0 : q2.opn.length = 0
          · rw [if_pos h0] at hm
            subst hm
            have t1 : ¬ (0 : Int) < (q2.opn.length : Int) := by omega
            have H0 := Lib.hid h0
            clear h0
            go_wp2_with fail
            go_ret
            exact ⟨lv, rfl, HOw.out, HK.out.trans HH6.out⟩
          · rw [if_neg h0] at hm
            subst hm
            have t1 : (0 : Int) < (q2.opn.length : Int) := by omega
            have H0 := Lib.hid h0
            clear h0
            go_wp2_with fail
            refine (unclosed_any HH5.out HI2.out.1.opn (by have := H0.out; omega)).mono ?_
            rintro e w3 ⟨rfl, h7⟩
            go_wp2_with fail
            exact ⟨rfl, rfl, (HK.out.trans HH6.out).trans h7⟩
        | true =>
          have hm3 := Lib.hid hm
          clear hm
          go_wp2_with fail
          have hgt := HI2.out.2.2.2.2 (by first | exact rfl | exact trivial)
          refine (token_ok (by omega) (s.size + 1 - q2.pos) q2 w2 HH5.out HI2.out.1 hgt.1 (by have := HI2.out.1.pos; omega) (hgr.keep HH6.out (by omega) hg1) hg1).mono ?_
          rintro e w3 h
          cases htk : tokenM s (s.size + 1 - q2.pos) q2 with
          | error f =>
            have hm := hm3.out
            rw [htk] at h
            simp only [htk] at hm
            obtain ⟨rfl, h7⟩ := h
            subst hm
            clear hm3
            go_wp2_with fail
            exact ⟨rfl, rfl, (HK.out.trans HH6.out).trans h7⟩
          | ok q3 =>
            have hm := hm3.out
            rw [htk] at h
            simp only [htk] at hm
            obtain ⟨rfl, h7, h8⟩ := h
            have hi3 := tokenM_inv s _ _ _ htk HI2.out.1 hgt.1 hgt.2.1 hgt.2.2.1
            have HI3 := Lib.hid hi3
            have HM3 := Lib.hid hm
            clear hm hi3 htk hm3 hgt
            go_wp2_with fail
            go_roundg (s.size + 2 - q3.pos)
            case measure => have := HN.out; have := HI3.out.2; have := HI3.out.1.pos; have := HI2.out.2.1; omega
            case rel =>
              exact ⟨q3, HI3.out.1, rfl, ⟨f, by have := HI3.out.2; have := HI2.out.2.1; omega, HM3.out⟩, h7, (HK.out.trans HH6.out).trans h8⟩

end
end Go.Proofs.YtcdidmohgcegmaaDoor
