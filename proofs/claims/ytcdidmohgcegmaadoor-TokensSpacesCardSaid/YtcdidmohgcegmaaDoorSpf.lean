/- TokensSpaces answers true, for every text and number. -/
import Derived.Test.YtcdidmohgcegmaaDoorSpe
import Derived.Test.YtcdidmohgcegmaaDoorMat
import Derived.StillTailTactics
namespace Go.Proofs.YtcdidmohgcegmaaDoor
open Go.RowKit
set_option maxRecDepth 100000

theorem row_of {w : World} {B : Nat} {lv : Value} {l : List Tok} (h : w.ownsRow B 34 5 lv l.length (l.flatMap Tok.cells)) (h0 : 0 < l.length) :
    ∃ k cap, lv = .slice (some ⟨k, 0, none⟩) l.length cap ∧ k < w.heap.size ∧ l.length ≤ cap ∧ l.length ≤ maxLen ∧ ∀ i, i < l.length → TokIn w k i (tk l i) := by
  obtain ⟨k, cap, cur, hv, hh, hcap, hr⟩ := own_cells h h0
  obtain ⟨k', cap', hv', hk', hin⟩ := in_form (own_base h (Nat.zero_le _)) h0
  have hm : l.length ≤ maxLen := by
    rcases h.2 with ⟨_, h2⟩ | ⟨_, _, _, _, _, _, h1, h2, _⟩
    · omega
    · omega
  rw [hv] at hv'
  cases hv'
  exact ⟨k, cap, hv, hk', hcap, hm, hin⟩
theorem ins_bound : ∀ (l : List Tok), -(l.length : Int) ≤ ins l ∧ ins l ≤ l.length
  | [] => by simp [ins]
  | t :: l => by
    have := ins_bound l
    have h2 : -1 ≤ insK t ∧ insK t ≤ 1 := by unfold insK; split <;> (try split) <;> omega
    simp only [ins, List.length_cons]
    omega
theorem ins_take (l : List Tok) (i : Nat) (h : i < l.length) : ins (l.take (i + 1)) = ins (l.take i) + insK (tk l i) := by
  rw [List.take_succ_eq_append_getElem h, ins_append]
  simp [ins, tk, List.getD, List.getElem?_eq_getElem h]
theorem slice_lo {P : Program} {t : TypeId} (ht : P.underlying t = some .string) (s : ByteArray) (b : Nat) (hb : b ≤ s.size) (W : World) :
    (Instr.slice t (.string s) none (some (.int .i64 (b : Int))) none).run P W = .ok (.string (s.extract 0 b)) W := by
  rw [run_slice_string_h W t s ht .i64 _ (by omega) (by omega), Int.toNat_natCast]
theorem slice_hi {P : Program} {t : TypeId} (ht : P.underlying t = some .string) (s : ByteArray) (a : Nat) (ha : a ≤ s.size) (W : World) :
    (Instr.slice t (.string s) (some (.int .i64 (a : Int))) none none).run P W = .ok (.string (s.extract a s.size)) W := by
  rw [run_slice_string_l W t s ht .i64 _ (by omega) (by omega), Int.toNat_natCast]
theorem modc (x n : Nat) (h : 0 < n) : ∃ k : Nat, k = x % n ∧ k < n ∧ (x : Int).tmod (n : Int) = (k : Int) ∧ (x : Int) % (n : Int) = (k : Int) := ⟨x % n, rfl, Nat.mod_lt _ h, by rw [Int.tmod_eq_emod_of_nonneg (by omega)]; simp, by simp⟩

/-- What the region that shifts the text leaves. -/
def SpMeet (w2 : World) (m : List Tok) (s11 s12 : Value) (wx : World) : Prop :=
  ∃ b2, s12 = .pointer (some ⟨b2, 0, none⟩) ∧ wx.ownsRow 0 34 5 s11 m.length (m.flatMap Tok.cells) ∧ wx.cell? ⟨b2, 0, none⟩ = some (.int .i64 0) ∧ wx.cell? ⟨b2, 1, none⟩ = some (.int .i64 0) ∧ Below w2.heap.size w2 wx
theorem meetA {w2 X w3 : World} {lv2 : Value} {m : List Tok} (hx : Below w2.heap.size w2 X) (ho : w3.ownsRow X.heap.size 34 5 lv2 m.length (m.flatMap Tok.cells)) (hb : Below X.heap.size X w3) :
    SpMeet w2 m lv2 (.pointer (some ⟨w3.heap.size, 0, none⟩)) (w3.alloc (.cells #[.int .i64 0, .int .i64 0] 28)) := by
  have h1 := hx.size
  have h2 := hb.size
  have hn := heap_alloc_new w3 (.cells #[.int .i64 0, .int .i64 0] 28)
  refine ⟨_, rfl, own_same (own_base ho (Nat.zero_le _)) fun k _ hk => Below.heap_alloc w3 _ k hk, ?_, ?_, (hx.trans (hb.mono (by omega))).alloc (by omega) _⟩
  · simp [cell_of_row _ _ _ _ _ _ hn]
  · simp [cell_of_row _ _ _ _ _ _ hn]
theorem meetB {w2 X w3 : World} {a : Nat} {lv2 : Value} {m : List Tok} (hx : Below w2.heap.size w2 X) (ho : w3.ownsRow X.heap.size 34 5 lv2 m.length (m.flatMap Tok.cells)) (hb : Below X.heap.size X w3)
    (ha : w2.heap.size ≤ a) (q : w3.heap[a]? = some (.cells #[.int .i64 0, .int .i64 0] 28 (0, 0))) :
    SpMeet w2 m lv2 (.pointer (some ⟨a, 0, none⟩)) ((w3.setCell ⟨a, 0, none⟩ (.int .i64 0)).setCell ⟨a, 1, none⟩ (.int .i64 0)) := by
  have h1 := hx.size
  have h2 := hb.size
  have r1 : w3.cell? ⟨a, 0, none⟩ = some (.int .i64 0) := by simp [cell_of_row w3 _ _ _ _ _ q]
  have r2 : w3.cell? ⟨a, 1, none⟩ = some (.int .i64 0) := by simp [cell_of_row w3 _ _ _ _ _ q]
  obtain ⟨z1, z2⟩ := cells2 w3 a (.int .i64 0) (.int .i64 0) r1 r2
  refine ⟨_, rfl, own_same (own_base ho (Nat.zero_le _)) fun k hk _ => ?_, z1, z2, ((hx.trans (hb.mono (by omega))).setCell (by show w2.heap.size ≤ a; omega) _).setCell (by show w2.heap.size ≤ a; omega) _⟩
  have hka : k ≠ a := by
    intro e
    obtain ⟨c', hc'⟩ := own_block ho hk
    rw [e] at hc'
    exact absurd (heap_ty hc' q) (by decide)
  rw [set_far _ _ _ _ _ hka, set_far _ _ _ _ _ hka]
theorem tk_keys {l m : List Tok} {n k : Nat} (h : m.map tkey = l.map (tkeyA n)) (hP : Parts n k l) (i : Nat) (hi : i < l.length) :
    (tk m i).kind = (tk l i).kind ∧ (tk m i).text = (tk l i).text ∧ (tk m i).line = (tk l i).line ∧ (i < k → (tk m i).pos = (tk l i).pos) ∧ (k ≤ i → (tk m i).pos = (tk l i).pos + 1) := by
  have hlen : m.length = l.length := by simpa using congrArg List.length h
  have e1 : (m.map tkey)[i]? = (l.map (tkeyA n))[i]? := by rw [h]
  rw [List.getElem?_map, List.getElem?_map, List.getElem?_eq_getElem hi, List.getElem?_eq_getElem (show i < m.length by omega)] at e1
  have e2 := Option.some.inj e1
  have em : tk m i = m[i]'(by omega) := by simp [tk, List.getD, List.getElem?_eq_getElem (show i < m.length by omega)]
  have el : tk l i = l[i] := by simp [tk, List.getD, List.getElem?_eq_getElem hi]
  rw [em, el]
  have hp := hP i hi
  simp only [tkey, tkeyA, Prod.mk.injEq] at e2
  obtain ⟨a, b, c, d⟩ := e2
  refine ⟨a, b, d, fun hk => ?_, fun hk => ?_⟩
  · rw [c, if_pos (hp.2 hk)]
  · rw [c, if_neg (fun hh => by have := hp.1 hh; omega)]

set_option maxHeartbeats 1600000 in
theorem spaces_any (s : ByteArray) (x : Nat) (hx : x < 65536) (w : World) (hg : Gl w) : Calls Tryd.prog 6 #[.string s, .int .u16 (x : Int)] w fun e w' => e = .returned (.bool true) ∧ Below w.heap.size w w' := by
  have HG := Lib.hid hg
  clear hg
  by_cases hs : 4000 < s.size
  · have d1 : decide ((4000 : Int) < (s.size : Int)) = true := decide_eq_true (by omega)
    go_enter Tryd.func6, Tryd.ntmps6
    go_wp2_with (go_at_call 7; refine (awake_any _ HG.out).mono ?_; rintro e w' ⟨rfl, hb⟩)
    go_ret
    exact ⟨rfl, hb⟩
  · have d1 : decide ((4000 : Int) < (s.size : Int)) = false := decide_eq_false (by omega)
    go_enter Tryd.func6, Tryd.ntmps6
    go_wp2_with fail
    refine (awake_any _ HG.out).mono ?_
    rintro e w1 ⟨rfl, hb⟩
    have HB := Lib.hid hb
    have HG1 : Hid (Gl w1) := Lib.hid (Gl.below HG.out hb HG.out.1)
    clear hb
    go_wp2_with fail
    refine (raw_any s w1 HG1.out).mono ?_
    rintro e w2 h
    generalize hr : rawM s = ro at h
    have HR := Lib.hid hr
    clear hr
    cases ro with
    | error f =>
      have hcode : ((f.code : Int) != 0) = true := by have := rawM_err HR.out; simp; omega
      obtain ⟨rfl, hb⟩ := h
      have HB2 := Lib.hid (HB.out.trans (Below.mono hb HB.out.size))
      clear hb
      unfold fltV
      go_wp2_with fail
      go_ret
      exact ⟨rfl, HB2.out.alloc HB2.out.size _⟩
    | ok l =>
      obtain ⟨lv, rfl, hown, hb⟩ := h
      have HB2 := Lib.hid (HB.out.trans (Below.mono hb HB.out.size))
      have HG2 : Hid (Gl w2) := Lib.hid (Gl.below HG1.out hb HG1.out.1)
      clear hb
      have z00 : (((0 : Nat) : Int) != 0) = false := rfl
      by_cases hl0 : l.length = 0
      · have hlv : ∃ a cap, lv = .slice a 0 cap := by
          rcases hown.2 with ⟨rfl, _⟩ | ⟨g, cap, _, rfl, _⟩
          · exact ⟨none, 0, rfl⟩
          · exact ⟨some ⟨g, 0, none⟩, cap, by rw [hl0]⟩
        obtain ⟨a, cap, rfl⟩ := hlv
        clear hown hl0
        go_wp2_with fail
        go_ret
        exact ⟨rfl, HB2.out.alloc HB2.out.size _⟩
      · obtain ⟨kl, cap, rfl, hkl, hcap, hmax, hin⟩ := row_of hown (by omega)
        obtain ⟨k, hkx, hkn, hmod1, hmod2⟩ := modc x l.length (by omega)
        have HIN := Lib.hid hin
        have HKX := Lib.hid hkx
        clear hin hown hkx
        have hml : maxLen < 2 ^ 63 := by decide
        have hmax2 : l.length < 9223372036854775808 := by omega
        have hmax3 : (l.length : Int) < 9223372036854775808 := by omega
        have nz1 : ((l.length : Int) == 0) = false := beq_eq_false_iff_ne.2 (by omega)
        have nz2 : (l.length : Int) ≠ 0 := by omega
        have nz3 : ¬(l.length = 0) := hl0
        have cp1 : (k : Int) ≤ (cap : Int) := by omega
        have cp2 : k ≤ cap := by omega
        have xb0 : (0 : Int) ≤ (x : Int) := by omega
        have xb1 : (x : Int) < 65536 := by omega
        clear hml hmax
        go_wp2_with fail
        go_loopg [8, 45] (k + 1) (fun n v8 v wr => ∃ i : Nat, i ≤ k ∧ v = .int .i64 i ∧ v8 = .int .i64 (ins (l.take i)) ∧ Hid (n = k + 1 - i) ∧ Hid (Below w2.heap.size w2 wr))
        case atStart => exact ⟨0, by omega, rfl, rfl, rfl, (Below.refl _ _).alloc (Nat.le_refl _) _⟩
        case round =>
          obtain ⟨i, hi, rfl, rfl, HN, HBr⟩ := hrel
          by_cases hlt : i < k
          · have d1' : decide ((i : Int) < (k : Int)) = true := decide_eq_true (by omega)
            have d2' : (i : Int) < (k : Int) := by omega
            obtain ⟨t0, t1, t2, t3, t4⟩ := (HIN.out i (by omega)).below HBr.out hkl
            have hstep := ins_take l i (by omega)
            have hb1 := ins_bound (l.take i)
            rw [List.length_take] at hb1
            by_cases h8 : (tk l i).kind = 8
            · have hd : insK (tk l i) = 1 := by simp [insK, h8]
              rw [hd] at hstep
              rw [h8] at t0
              have HST := Lib.hid hstep
              have w1 : IntKind.i64.wrap (ins (l.take i) + 1) = ins (l.take i) + 1 := IntWalk.i64_in _ (by omega)
              clear hstep h8 hd
              generalize ins (l.take i) = D at *
              go_wp2_with fail
              go_roundg (k + 1 - (i + 1))
              case measure => have := HN.out; omega
              case rel => exact ⟨i + 1, by omega, by go_num, by rw [HST.out], rfl, HBr.out.alloc HBr.out.size _⟩
            · have n8 : (((tk l i).kind : Int) == 8) = false := beq_eq_false_iff_ne.2 (by omega)
              by_cases h10 : (tk l i).kind = 10
              · have hd : insK (tk l i) = -1 := by simp [insK, h10]
                rw [hd] at hstep
                rw [h10] at t0
                have HST := Lib.hid hstep
                have w1 : IntKind.i64.wrap (ins (l.take i) - 1) = ins (l.take i) - 1 := IntWalk.i64_in _ (by omega)
                clear hstep h10 h8 n8 hd
                generalize ins (l.take i) = D at *
                go_wp2_with fail
                go_roundg (k + 1 - (i + 1))
                case measure => have := HN.out; omega
                case rel => exact ⟨i + 1, by omega, by go_num, by rw [HST.out]; rfl, rfl, HBr.out.alloc HBr.out.size _⟩
              · have n10 : (((tk l i).kind : Int) == 10) = false := beq_eq_false_iff_ne.2 (by omega)
                have hd : insK (tk l i) = 0 := by simp [insK, h8, h10]
                rw [hd] at hstep
                have HST := Lib.hid hstep
                clear hstep h8 h10 hd
                generalize ins (l.take i) = D at *
                go_wp2_with fail
                go_roundg (k + 1 - (i + 1))
                case measure => have := HN.out; omega
                case rel => exact ⟨i + 1, by omega, by go_num, by rw [HST.out]; simp, rfl, HBr.out.alloc HBr.out.size _⟩
          · obtain rfl : i = k := by omega
            have d1' : decide ((i : Int) < (i : Int)) = false := decide_eq_false (by omega)
            obtain ⟨t0, t1, t2, t3, t4⟩ := (HIN.out i hkn).below HBr.out hkl
            have HB3 := Lib.hid (HB2.out.trans (Below.mono HBr.out HB2.out.size))
            clear hmod1 hmod2 cp1 cp2 nz1 nz2 nz3 xb0 xb1 hmax2 hmax3
            by_cases hins : 0 < ins (l.take i)
            · have d2' : decide (0 < ins (l.take i)) = true := decide_eq_true hins
              generalize ins (l.take i) = D at *
              go_wp2_with fail
              go_ret
              exact ⟨rfl, HB3.out⟩
            · have d2' : decide (0 < ins (l.take i)) = false := decide_eq_false hins
              have hp0 : ((tk l i).pos : Int) ≤ (s.size : Int) := by
                have := ((rawM_small HR.out).1 _ (List.getElem_mem hkn)).1
                have e : tk l i = l[i] := by simp [tk, List.getD, List.getElem?_eq_getElem hkn]
                rw [e]; omega
              have d3' : decide ((s.size : Int) < ((tk l i).pos : Int)) = false := decide_eq_false (by omega)
              have d4' : decide (((tk l i).pos : Int) < 0) = false := decide_eq_false (by omega)
              have i1 : (i : Int) < (l.length : Int) := by omega
              have d5' : decide (s.size < (tk l i).pos) = false := decide_eq_false (by omega)
              have hpn : (tk l i).pos ≤ s.size := by omega
              have hsl := slice_lo Tryd.underlying9 s (tk l i).pos hpn
              have hsh := slice_hi Tryd.underlying9 s (tk l i).pos hpn
              have z1 : (s.extract 0 (tk l i).pos).size = (tk l i).pos := by rw [ByteArray.size_extract]; omega
              have z2 : (s.extract (tk l i).pos s.size).size = s.size - (tk l i).pos := by rw [ByteArray.size_extract]; omega
              have z3 : (⟨#[32]⟩ : ByteArray).size = 1 := rfl
              have a1 : (s.extract 0 (tk l i).pos).size + (⟨#[32]⟩ : ByteArray).size ≤ 9223372036854775807 := by omega
              have a2 : (s.extract 0 (tk l i).pos ++ ⟨#[32]⟩).size + (s.extract (tk l i).pos s.size).size ≤ 9223372036854775807 := by rw [ByteArray.size_append]; omega
              have ha1 := fun (W : World) => run_string_add_sum (P := Tryd.prog) (w := W) _ _ a1
              have ha2 := fun (W : World) => run_string_add_sum (P := Tryd.prog) (w := W) _ _ a2
              clear z1 z2 z3 a1 a2
              have HSP : Hid (∃ m, rawM (blankAt s (tk l i).pos) = .ok m ∧ m.map tkey = l.map (tkeyA (tk l i).pos) ∧ Parts (tk l i).pos i l) := Lib.hid (by
                have e : tk l i = l[i] := by simp [tk, List.getD, List.getElem?_eq_getElem hkn]
                rw [e]
                exact spaces_model HR.out hkn (by omega) (by omega))
              clear hins
              generalize ins (l.take i) = D at *
              have hraw : ∃ m, rawM (blankAt s (tk l i).pos) = .ok m ∧ m.map tkey = l.map (tkeyA (tk l i).pos) ∧ Parts (tk l i).pos i l := HSP.out
              obtain ⟨m, hm1, hm2, hm3⟩ := hraw
              have HM1 := Lib.hid hm1
              have HM2 := Lib.hid hm2
              have HM3 := Lib.hid hm3
              have HGr : Hid (Gl wr) := Lib.hid (Gl.below HG2.out HBr.out HG2.out.1)
              have hklr : kl < wr.heap.size := by have := HBr.out.size; omega
              clear hm1 hm2 hm3
              go_upto_region 19 with fail
              go_cut [11, 12] (fun s11 s12 wx => SpMeet w2 m s11 s12 wx)
              case first =>
                go_region_with (go_at_call 16; refine (raw_any _ _ ?_).mono ?_; (repeat' first | exact HGr.out | refine Gl.drewN ?_ _ | refine Gl.drew ?_ | refine Gl.alloc ?_ _); rintro e w3 h; replace h : RawOut _ (rawM (blankAt s (tk l i).pos)) e w3 := h; rw [HM1.out] at h; obtain ⟨lv2, rfl, hown2, hb2⟩ := h; (try (have q2 : w3.heap[wr.heap.size]? = some (.cells #[.int .i64 0, .int .i64 0] 28 (0, 0)) := (hb2.block _ (by simp)).trans (heap_alloc_new wr _); have r2 : w3.cell? ⟨wr.heap.size, 0, none⟩ = some (.int .i64 0) := (by simp [cell_of_row w3 _ _ _ _ _ q2]); have r3 : w3.cell? ⟨wr.heap.size, 1, none⟩ = some (.int .i64 0) := (by simp [cell_of_row w3 _ _ _ _ _ q2]); have r2f : w3.frozen? ⟨wr.heap.size, 0, none⟩ = false := (by simp [World.frozen?, q2]); have r3f : w3.frozen? ⟨wr.heap.size, 1, none⟩ = false := (by simp [World.frozen?, q2]); have HQ := Lib.hid q2; clear q2)); have HO2 := Lib.hid hown2; have HB4 := Lib.hid hb2; clear hown2 hb2)
                all_goals
                  go_wp2_with fail
                  go_meet
                  first
                    | exact meetA (X := wr.drew) HBr.out.drew HO2.out HB4.out
                    | exact meetB (X := (wr.alloc (.cells #[.int .i64 0, .int .i64 0] 28)).drew) (HBr.out.alloc HBr.out.size _).drew HO2.out HB4.out HBr.out.size HQ.out
              case rest =>
                obtain ⟨b2, rfl, ho, c0, c1, hbx⟩ := hcut
                have hml : m.length = l.length := by simpa using congrArg List.length HM2.out
                obtain ⟨km, cap2, rfl, hkm, hcap2, _, hin2⟩ := row_of ho (by omega)
                have hl8 : l.length ≤ 8000 := by have := (rawM_small HR.out).2.1; omega
                have HKY := Lib.hid (tk_keys HM2.out HM3.out)
                have HIN2 := Lib.hid hin2
                have HBX := Lib.hid hbx
                have HPS := Lib.hid (fun (j : Nat) (hj : j < l.length) => (show (tk l j).pos ≤ s.size by
                  have := ((rawM_small HR.out).1 _ (List.getElem_mem hj)).1
                  have e : tk l j = l[j] := by simp [tk, List.getD, List.getElem?_eq_getElem hj]
                  rw [e]; exact this))
                rw [hml] at *
                clear ho hin2 hbx hsl hsh ha1 ha2 t0 t1 t2 t3 t4 hp0 d3' d4' d5' d2' i1 hpn hml hcap2
                go_wp2_with fail
                go_loopg [114] (l.length + 1) (fun n v wy => ∃ j : Nat, j ≤ l.length ∧ v = .int .i64 j ∧ Hid (n = l.length + 1 - j) ∧ Hid (Below wc.heap.size wc wy))
                case atStart => exact ⟨0, by omega, rfl, rfl, (Below.refl _ _)⟩
                case round =>
                  obtain ⟨j, hj, rfl, HN, HBy⟩ := hrel
                  by_cases hlt : j < l.length
                  · have e1' : decide ((j : Int) < (l.length : Int)) = true := decide_eq_true (by omega)
                    have e2' : (j : Int) < (l.length : Int) := by omega
                    obtain ⟨t0, t1, t2, t3, t4⟩ := (HIN.out j hlt).below (HBX.out.trans (HBy.out.mono HBX.out.size)) hkl
                    obtain ⟨u0, u1, u2, u3, u4⟩ := (HIN2.out j hlt).below HBy.out hkm
                    obtain ⟨y0, y1, y2, y3, y4⟩ := HKY.out j hlt
                    have hps := HPS.out j hlt
                    rw [y0] at u0
                    rw [y1] at u1
                    rw [y2] at u3
                    clear y0 y1 y2 t4 u4
                    by_cases hjk : j < i
                    · rw [y3 hjk] at u2
                      have d6 : decide ((i : Int) ≤ (j : Int)) = false := decide_eq_false (by omega)
                      have d7 : decide (i ≤ j) = false := decide_eq_false (by omega)
                      have w1 : IntKind.i64.wrap ((tk l j).pos : Int) = ((tk l j).pos : Int) := IntWalk.i64_in _ (by omega)
                      have w2' : IntKind.i64.wrap (((tk l j).pos : Int) + 0) = ((tk l j).pos : Int) := by rw [Int.add_zero]; exact w1
                      clear y3 y4 hps
                      generalize (tk l j).kind = tk0 at *
                      generalize (tk l j).text = tt0 at *
                      generalize (tk l j).line = tl0 at *
                      generalize (tk l j).pos = tp0 at *
                      go_wp2_with fail
                      go_quiet (fail)
                      go_wp2_with fail
                      go_roundg (l.length + 1 - (j + 1))
                      case measure => have := HN.out; omega
                      case rel => exact ⟨j + 1, by omega, by go_num, rfl, below_drewN HBy.out _⟩
                    · rw [y4 (by omega)] at u2
                      have d6 : decide ((i : Int) ≤ (j : Int)) = true := decide_eq_true (by omega)
                      have d7 : decide (i ≤ j) = true := decide_eq_true (by omega)
                      have w2' : IntKind.i64.wrap (((tk l j).pos : Int) + 1) = (((tk l j).pos + 1 : Nat) : Int) := IntWalk.i64_in _ (by omega)
                      clear y3 y4 hps
                      generalize (tk l j).kind = tk0 at *
                      generalize (tk l j).text = tt0 at *
                      generalize (tk l j).line = tl0 at *
                      generalize (tk l j).pos = tp0 at *
                      go_wp2_with fail
                      go_quiet (fail)
                      go_wp2_with fail
                      go_roundg (l.length + 1 - (j + 1))
                      case measure => have := HN.out; omega
                      case rel => exact ⟨j + 1, by omega, by go_num, rfl, below_drewN HBy.out _⟩
                  · obtain rfl : j = l.length := by omega
                    have e1' : decide ((l.length : Int) < (l.length : Int)) = false := decide_eq_false (by omega)
                    go_wp2_with fail
                    go_ret
                    exact ⟨rfl, HB2.out.trans (Below.mono (HBX.out.trans (HBy.out.mono HBX.out.size)) HB2.out.size)⟩
end Go.Proofs.YtcdidmohgcegmaaDoor
