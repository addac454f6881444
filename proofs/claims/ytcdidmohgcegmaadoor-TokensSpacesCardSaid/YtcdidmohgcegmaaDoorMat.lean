/- TokensMatch answers true, for every text. -/
import Derived.Test.YtcdidmohgcegmaaDoorAwa
import Derived.Test.YtcdidmohgcegmaaDoorBal
namespace Go.Proofs.YtcdidmohgcegmaaDoor
open Go.RowKit
set_option maxRecDepth 100000

theorem own_max {w : World} {B e sz n : Nat} {v : Value} {xs : List Value} (h : w.ownsRow B e sz v n xs) (hn : 0 < n) : n ≤ maxLen := by
  rcases h.2 with ⟨_, h2⟩ | ⟨_, _, _, _, _, _, h1, h2, _⟩
  · omega
  · omega
theorem dsum_take (l : List Tok) (i : Nat) (h : i < l.length) : dsum (l.take (i + 1)) = dsum (l.take i) + dk (tk l i) := by
  rw [List.take_succ_eq_append_getElem h, dsum_append]
  simp [dsum, tk, List.getD, List.getElem?_eq_getElem h]
theorem dk_le (t : Tok) : -1 ≤ dk t ∧ dk t ≤ 1 := by unfold dk; split <;> (try split) <;> omega
theorem dsum_le : ∀ (l : List Tok), dsum l ≤ l.length
  | [] => by simp [dsum]
  | t :: l => by have := dsum_le l; have := dk_le t; simp [dsum]; omega
theorem fin_facts {l : List Tok} (h : Fin l) : 0 < l.length ∧ (∀ i, i < l.length → ((tk l i).kind = 14 ↔ i + 1 = l.length)) ∧ (∀ n, 0 ≤ dsum (l.take n)) ∧ dsum l = 0 ∧ ∀ n, dsum (l.take n) ≤ l.length := by
  obtain ⟨pre, t, rfl, ht, hst, hfr, hsum⟩ := h
  have hd : dk t = 0 := by simp [dk, ht]
  refine ⟨by simp, fun i hi => ?_, front_snoc hfr (by omega), by rw [dsum_append]; simp [dsum, hd, hsum], fun n => Int.le_trans (dsum_le _) (by simp; omega)⟩
  rcases Nat.lt_or_ge i pre.length with hlt | hge
  · have e : tk (pre ++ [t]) i = pre[i] := by simp [tk, List.getD, List.getElem?_append_left hlt, List.getElem?_eq_getElem hlt]
    rw [e]
    have := hst _ (List.getElem_mem hlt)
    simp
    constructor
    · intro h; exact absurd h this
    · intro h; omega
  · have hi2 : i = pre.length := by simp at hi; omega
    subst hi2
    simp [tk, List.getD, ht]
set_option maxRecDepth 100000 in
set_option maxHeartbeats 1600000 in
theorem match_any (s : ByteArray) (w : World) (hg : Gl w) : Calls Tryd.prog 5 #[.string s] w fun e w' => e = .returned (.bool true) ∧ Below w.heap.size w w' := by
  have HG := Lib.hid hg
  clear hg
  by_cases hs : 4000 < s.size
  · have d1 : decide ((4000 : Int) < (s.size : Int)) = true := decide_eq_true (by omega)
    go_enter Tryd.func5, Tryd.ntmps5
    go_wp2_with (go_at_call 7; refine (awake_any _ HG.out).mono ?_; rintro e w' ⟨rfl, hb⟩)
    go_ret
    exact ⟨rfl, hb⟩
  · have d1 : decide ((4000 : Int) < (s.size : Int)) = false := decide_eq_false (by omega)
    go_enter Tryd.func5, Tryd.ntmps5
    go_wp2_with fail
    refine (awake_any _ HG.out).mono ?_
    rintro e w1 ⟨rfl, hb⟩
    have HB := Lib.hid hb
    have HG1 : Hid (Gl w1) := Lib.hid (Gl.below HG.out hb HG.out.1)
    clear hb
    go_wp2_with fail
    refine (scan_any s w1 HG1.out).mono ?_
    rintro e w2 h
    generalize hr : scanM s = ro at h
    have HR := Lib.hid hr
    clear hr
    cases ro with
    | error f =>
      have hcode : ((f.code : Int) != 0) = true := by have := scanM_err HR.out; simp; omega
      obtain ⟨rfl, hb⟩ := h
      have HB2 := Lib.hid (HB.out.trans (Below.mono hb HB.out.size))
      clear hb
      unfold fltV
      go_wp2_with fail
      go_ret
      exact ⟨rfl, HB2.out.alloc HB2.out.size _⟩
    | ok l =>
      obtain ⟨lv, rfl, hown, hb⟩ := h
      have HB2 := Lib.hid (HB.out.trans (Below.mono hb HB.out.size))
      obtain ⟨hpos, hkind, hfront, hsum, hle⟩ := fin_facts (scanM_fin HR.out)
      have hmax := own_max hown hpos
      obtain ⟨k, cap, rfl, hkk, hin⟩ := in_form hown hpos
      have HIN := Lib.hid hin
      have HK := Lib.hid hkind
      have HF := Lib.hid hfront
      have HS := Lib.hid hsum
      have HLE := Lib.hid hle
      clear hin hown hb hkind hfront hsum hle
      go_wp2_with fail
      go_loopg [5, 29] (l.length + 1) (fun n v5 v wr => ∃ i : Nat, i ≤ l.length ∧ v = .int .i64 i ∧ v5 = .int .i64 (dsum (l.take i)) ∧ Hid (n = l.length + 1 - i) ∧ Hid (Below w2.heap.size w2 wr))
      case atStart => exact ⟨0, by omega, rfl, rfl, rfl, (Below.refl _ _).alloc (Nat.le_refl _) _⟩
      case round =>
        obtain ⟨i, hi, rfl, rfl, HN, HBr⟩ := hrel
        by_cases hlt : i < l.length
        · have d1' : decide ((i : Int) < (l.length : Int)) = true := decide_eq_true (by omega)
          have d2' : (i : Int) < (l.length : Int) := by omega
          obtain ⟨t0, t1, t2, t3, t4⟩ := (HIN.out i hlt).below HBr.out hkk
          have hk := HK.out i hlt
          have hstep := dsum_take l i hlt
          have hnn := HF.out (i + 1)
          have hnn0 := HF.out i
          have hle0 := HLE.out i
          have hml : maxLen < 2 ^ 63 := by decide
          have hle1 := HLE.out (i + 1)
          have ew : IntKind.i64.wrap ((l.length : Int) - 1) = ((l.length - 1 : Nat) : Int) := by rw [show ((l.length : Int) - 1) = ((l.length - 1 : Nat) : Int) by omega]; exact IntWalk.i64_in _ (by omega)
          have HW := Lib.hid (HBr.out.alloc HBr.out.size (.cells #[I (tk l i).kind, .string (tk l i).text, I (tk l i).pos, I (tk l i).line, I (tk l i).col] 34))
          by_cases h12 : (tk l i).kind = 12
          · have hd : dk (tk l i) = 1 := by simp [dk, h12]
            have hnl : ¬(i + 1 = l.length) := fun h => by have := hk.2 h; omega
            have eI : ((i : Int) == ((l.length - 1 : Nat) : Int)) = false := beq_eq_false_iff_ne.2 (by omega)
            rw [hd] at hstep
            rw [h12] at t0
            have HST := Lib.hid hstep
            have w1 : IntKind.i64.wrap (dsum (l.take i) + 1) = dsum (l.take i) + 1 := IntWalk.i64_in _ (by omega)
            have e1 : decide (dsum (l.take i) + 1 < 0) = false := decide_eq_false (by omega)
            clear hstep hk h12 hd hnl
            generalize dsum (l.take i) = D at *
            go_wp2_with fail
            go_roundg (l.length + 1 - (i + 1))
            case measure => have := HN.out; omega
            case rel => exact ⟨i + 1, by omega, by go_num, by rw [HST.out], rfl, HBr.out.alloc HBr.out.size _⟩
          · have n12 : (((tk l i).kind : Int) == 12) = false := beq_eq_false_iff_ne.2 (by omega)
            by_cases h13 : (tk l i).kind = 13
            · have hd : dk (tk l i) = -1 := by simp [dk, h13]
              have hnl : ¬(i + 1 = l.length) := fun h => by have := hk.2 h; omega
              have eI : ((i : Int) == ((l.length - 1 : Nat) : Int)) = false := beq_eq_false_iff_ne.2 (by omega)
              rw [hd] at hstep
              rw [h13] at t0
              have HST := Lib.hid hstep
              have w1 : IntKind.i64.wrap (dsum (l.take i) - 1) = dsum (l.take i) - 1 := IntWalk.i64_in _ (by omega)
              have e1 : decide (dsum (l.take i) - 1 < 0) = false := decide_eq_false (by omega)
              clear hstep hk h13 h12 n12 hd hnl
              generalize dsum (l.take i) = D at *
              go_wp2_with fail
              go_roundg (l.length + 1 - (i + 1))
              case measure => have := HN.out; omega
              case rel => exact ⟨i + 1, by omega, by go_num, by rw [HST.out]; rfl, rfl, HBr.out.alloc HBr.out.size _⟩
            · have n13 : (((tk l i).kind : Int) == 13) = false := beq_eq_false_iff_ne.2 (by omega)
              have hd : dk (tk l i) = 0 := by simp [dk, h12, h13]
              rw [hd] at hstep
              have HST := Lib.hid hstep
              have e1 : decide (dsum (l.take i) < 0) = false := decide_eq_false (by omega)
              by_cases hla : i + 1 = l.length
              · have eI : ((i : Int) == ((l.length - 1 : Nat) : Int)) = true := beq_iff_eq.2 (by omega)
                have n14 : (((tk l i).kind : Int) == 14) = true := beq_iff_eq.2 (by have := hk.2 hla; omega)
                clear hstep hk h13 h12 hd hla
                generalize dsum (l.take i) = D at *
                go_wp2_with fail
                go_roundg (l.length + 1 - (i + 1))
                case measure => have := HN.out; omega
                case rel => exact ⟨i + 1, by omega, by go_num, by rw [HST.out]; simp, rfl, HBr.out.alloc HBr.out.size _⟩
              · have eI : ((i : Int) == ((l.length - 1 : Nat) : Int)) = false := beq_eq_false_iff_ne.2 (by omega)
                have n14 : (((tk l i).kind : Int) == 14) = false := beq_eq_false_iff_ne.2 (fun h => hla (hk.1 (by omega)))
                clear hstep hk h13 h12 hd hla
                generalize dsum (l.take i) = D at *
                go_wp2_with fail
                go_roundg (l.length + 1 - (i + 1))
                case measure => have := HN.out; omega
                case rel => exact ⟨i + 1, by omega, by go_num, by rw [HST.out]; simp, rfl, HBr.out.alloc HBr.out.size _⟩
        · obtain rfl : i = l.length := by omega
          have d1' : decide ((l.length : Int) < (l.length : Int)) = false := decide_eq_false (by omega)
          have e0 : dsum (l.take l.length) = 0 := by rw [List.take_length]; exact HS.out
          have d3 : decide (0 < l.length) = true := decide_eq_true hpos
          rw [e0]
          go_wp2_with fail
          go_ret
          exact ⟨ret_bool (by simp), HB2.out.trans (Below.mono HBr.out HB2.out.size)⟩
end Go.Proofs.YtcdidmohgcegmaaDoor
