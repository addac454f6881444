/- TokensBack answers true, for every text. Conditions: canonical's contract (handed in). -/
import Derived.Test.YtcdidmohgcegmaaDoorSn
namespace Go.Proofs.YtcdidmohgcegmaaDoor
open Go.RowKit
set_option maxRecDepth 100000

theorem kt_all {l m : List Tok} (h : m.map kt = l.map kt) : m.length = l.length ∧ ∀ i, i < l.length → (tk m i).kind = (tk l i).kind ∧ (tk m i).text = (tk l i).text := by
  have hlen : m.length = l.length := by simpa using congrArg List.length h
  refine ⟨hlen, fun i hi => ?_⟩
  have e1 : (m.map kt)[i]? = (l.map kt)[i]? := by rw [h]
  rw [List.getElem?_map, List.getElem?_map, List.getElem?_eq_getElem hi, List.getElem?_eq_getElem (show i < m.length by omega)] at e1
  have e2 := Option.some.inj e1
  rw [tk_eq m i (by omega), tk_eq l i hi]
  simp only [kt, Prod.mk.injEq] at e2
  exact e2

set_option maxHeartbeats 1600000 in
theorem back_any (hcan : CanSaid) (s : ByteArray) (w : World) (hg : Gl w) : Calls Tryd.prog 4 #[.string s] w fun e w' => e = .returned (.bool true) ∧ Below w.heap.size w w' := by
  have HG := Lib.hid hg
  clear hg
  by_cases hs : 4000 < s.size
  · have d1 : decide ((4000 : Int) < (s.size : Int)) = true := decide_eq_true (by omega)
    go_enter Tryd.func4, Tryd.ntmps4
    go_wp2_with (go_at_call 7; refine (awake_any _ HG.out).mono ?_; rintro e w' ⟨rfl, hb⟩)
    go_ret
    exact ⟨rfl, hb⟩
  · have d1 : decide ((4000 : Int) < (s.size : Int)) = false := decide_eq_false (by omega)
    go_enter Tryd.func4, Tryd.ntmps4
    go_wp2_with fail
    refine (awake_any _ HG.out).mono ?_
    rintro e w1 ⟨rfl, hb⟩
    have HB := Lib.hid hb
    have HG1 : Hid (Gl w1) := Lib.hid (Gl.below HG.out hb HG.out.1)
    clear hb
    go_wp2_with fail
    refine (raw_any s w1 HG1.out).mono ?_
    rintro e w2 h
    generalize hr : rawM s = ro at h
    have HR := Lib.hid hr
    clear hr
    cases ro with
    | error f =>
      have hcode : ((f.code : Int) != 0) = true := by have := rawM_err HR.out; simp; omega
      obtain ⟨rfl, hb⟩ := h
      have HB2 := Lib.hid (HB.out.trans (Below.mono hb HB.out.size))
      clear hb
      unfold fltV
      go_wp2_with fail
      go_ret
      exact ⟨rfl, HB2.out.alloc HB2.out.size _⟩
    | ok l =>
      obtain ⟨lv, rfl, hown, hb⟩ := h
      have HB2 := Lib.hid (HB.out.trans (Below.mono hb HB.out.size))
      have HG2 : Hid (Gl w2) := Lib.hid (Gl.below HG1.out hb HG1.out.1)
      clear hb
      have z00 : (((0 : Nat) : Int) != 0) = false := rfl
      obtain ⟨hbl, hbk, m, hm, hmk⟩ := back_model HR.out (by omega)
      obtain ⟨hml, hkt⟩ := kt_all hmk
      have HML := Lib.hid hml
      have HZ : Hid (∀ W : World, Gl W → Calls Tryd.prog 16 #[.string (bytesOf (shoL 15 l))] W (RawOut W (.ok m))) := Lib.hid (fun W hW => by have := raw_any (bytesOf (shoL 15 l)) W hW; rw [hm] at this; exact this)
      have hdrop : Hid (Gl (w2.alloc (.cells #[I 0, I 0] 28))) := Lib.hid (Gl.alloc HG2.out _)
      have HB3 : Hid (Below w.heap.size w (w2.alloc (.cells #[I 0, I 0] 28))) := Lib.hid (HB2.out.alloc HB2.out.size _)
      by_cases hl0 : l.length = 0
      · have hl : l = [] := List.length_eq_zero_iff.1 hl0
        subst hl
        have hme : m = [] := List.length_eq_zero_iff.1 (by simpa using hml)
        subst hme
        obtain ⟨a, cap, rfl⟩ := nil_form hown
        have HSH : Hid (∀ W : World, Gl W → Calls Tryd.prog 17 #[.slice a 0 cap] W fun e w' => e = .returned (.tuple #[.string (bytesOf []), .int .i64 0]) ∧ Below W.heap.size W w') := Lib.hid (fun W hW => show_nil _ W hW ⟨_, _, rfl⟩ hm)
        change Hid (∀ W : World, Gl W → Calls Tryd.prog 16 #[.string (bytesOf [])] W (RawOut W (.ok []))) at HZ
        clear hown hl0 hbl hbk hm hmk hml hkt HML
        go_wp2_with (first
          | (go_at_call 17; refine (HSH.out _ hdrop.out).mono ?_; rintro e w3 ⟨rfl, hb3⟩; have HB4 : Hid (Below w.heap.size w w3) := Lib.hid (HB3.out.trans (Below.mono hb3 HB3.out.size)); clear hb3)
          | (go_at_call 16; refine (HZ.out _ (Gl.below HG.out HB4.out HG.out.1)).mono ?_; rintro e w4 ⟨lv, rfl, hown, hb4⟩; obtain ⟨a2, c2, rfl⟩ := nil_form hown; have HB5 : Hid (Below w.heap.size w w4) := Lib.hid (HB4.out.trans (Below.mono hb4 HB4.out.size)); clear hown hb4))
        go_loopg [55] 1 (fun n v wy => v = .int .i64 0 ∧ Hid (n = 1) ∧ Hid (Below w.heap.size w wy))
        case atStart => exact ⟨rfl, rfl, HB5.out.alloc HB5.out.size _⟩
        case round =>
          obtain ⟨rfl, HN, HBy⟩ := hrel
          go_wp2_with fail
          go_ret
          exact ⟨rfl, HBy.out⟩
      · obtain ⟨kl, cap, rfl, hkl, hcap, hmax, hin⟩ := row_ofb hown (by omega)
        have hl8 : l.length ≤ 8000 := by have := (rawM_small HR.out).2.1; omega
        have HIN := Lib.hid hin
        have HKY := Lib.hid hkt
        have HSH : Hid (∀ W : World, Below w2.heap.size w2 W → Gl W → Calls Tryd.prog 17 #[.slice (some ⟨kl, 0, none⟩) l.length cap] W fun e w' => e = .returned (.tuple #[.string (bytesOf (shoL 15 l)), .int .i64 0]) ∧ Below W.heap.size W w') := Lib.hid (fun W hW hgW =>
          show_any hcan l m kl cap W hgW (by omega) (by omega) (fun i hi => (hin i hi).below hW hkl) (by have := hW.size; omega) (fun i hi => ⟨by rw [tk_eq l i hi]; exact hbk _ (List.getElem_mem hi), by have := ((rawM_small HR.out).1 _ (List.getElem_mem hi)).2.2; rw [tk_eq l i hi]; omega⟩) hbl hm hml hkt)
        clear hin hown hbl hbk hm hmk hkt hcap hmax
        go_wp2_with (first
          | (go_at_call 17; refine (HSH.out _ ((Below.refl _ _).alloc (Nat.le_refl _) _) hdrop.out).mono ?_; rintro e w3 ⟨rfl, hb3⟩; have HB4 : Hid (Below w.heap.size w w3) := Lib.hid (HB3.out.trans (Below.mono hb3 HB3.out.size)); have HX3 : Hid (Below w2.heap.size w2 w3) := Lib.hid (((Below.refl w2.heap.size w2).alloc (Nat.le_refl _) _).trans (Below.mono hb3 (by simp))); clear hb3)
          | (go_at_call 16; refine (HZ.out _ (Gl.below HG.out HB4.out HG.out.1)).mono ?_; rintro e w4 ⟨lv, rfl, hown, hb4⟩; obtain ⟨km, capm, rfl, hkm, _, _, hinm⟩ := row_ofb (own_base hown (Nat.zero_le _)) (by omega); rw [hml]; have HB5 : Hid (Below w.heap.size w w4) := Lib.hid (HB4.out.trans (Below.mono hb4 HB4.out.size)); have HX4 : Hid (Below w2.heap.size w2 w4) := Lib.hid (HX3.out.trans (Below.mono hb4 HX3.out.size)); have HINM := Lib.hid hinm; clear hown hb4 hinm))
        go_loopg [55] (l.length + 1) (fun n v wy => ∃ j : Nat, j ≤ l.length ∧ v = .int .i64 j ∧ Hid (n = l.length + 1 - j) ∧ Hid (Below w4.heap.size w4 wy))
        case atStart => exact ⟨0, by omega, rfl, rfl, (Below.refl _ _).alloc (Nat.le_refl _) _⟩
        case round =>
          obtain ⟨j, hj, rfl, HN, HBy⟩ := hrel
          by_cases hlt : j < l.length
          · have e1' : decide ((j : Int) < (l.length : Int)) = true := decide_eq_true (by omega)
            have e2' : (j : Int) < (l.length : Int) := by omega
            obtain ⟨t0, t1, t2, t3, t4⟩ := (HIN.out j hlt).below (HX4.out.trans (HBy.out.mono HX4.out.size)) hkl
            obtain ⟨u0, u1, u2, u3, u4⟩ := (HINM.out j (by have := HML.out; omega)).below HBy.out hkm
            obtain ⟨y0, y1⟩ := HKY.out j hlt
            rw [y0] at u0
            rw [y1] at u1
            clear y0 y1 t2 t3 t4 u2 u3 u4
            generalize (tk l j).kind = tk0 at *
            generalize (tk l j).text = tt0 at *
            go_wp2_with fail
            go_quiet (fail)
            go_wp2_with fail
            go_roundg (l.length + 1 - (j + 1))
            case measure => have := HN.out; omega
            case rel => exact ⟨j + 1, by omega, by go_num, rfl, below_drewN HBy.out _⟩
          · obtain rfl : j = l.length := by omega
            have e1' : decide ((l.length : Int) < (l.length : Int)) = false := decide_eq_false (by omega)
            go_wp2_with fail
            go_ret
            exact ⟨rfl, HB5.out.trans (Below.mono HBy.out HB5.out.size)⟩
end Go.Proofs.YtcdidmohgcegmaaDoor
