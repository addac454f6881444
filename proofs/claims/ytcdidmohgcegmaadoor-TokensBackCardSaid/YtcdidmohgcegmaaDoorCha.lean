/- Contracts of unescape, character. Conditions: the text is not long; the reader lies at block g. -/
import Derived.Test.YtcdidmohgcegmaaDoorRda
import Derived.Deep.Light
namespace Go.Proofs.YtcdidmohgcegmaaDoor
open Go.RowKit
attribute [local go_sem ↓ high] builtin_app
section
variable {B g : Nat} {s : ByteArray} {r : Rd} {w : World}

theorem ret_pair {a b c d : Int} (h1 : a = c) (h2 : b = d) : Ending.returned (.tuple #[.int .u8 a, .int .i64 b]) = .returned (.tuple #[.int .u8 c, .int .i64 d]) := by rw [h1, h2]
theorem hexM_bd (b : UInt8) : -1 ≤ hexM b ∧ hexM b ≤ 15 := by unfold hexM; (repeat' split) <;> omega
theorem or_hex16 : ∀ a b : Fin 16, bits BinOp.or IntKind.i64 ((a.val : Int) * 16) (b.val : Int) % 256 = (((UInt8.ofNat (a.val * 16 + b.val)).toNat : Nat) : Int) := by decide +kernel
theorem or_hex (a b : Int) (ha : 0 ≤ a) (ha' : a ≤ 15) (hb : 0 ≤ b) (hb' : b ≤ 15) : bits BinOp.or IntKind.i64 (a * 16) b % 256 = (((UInt8.ofNat (a * 16 + b).toNat).toNat : Nat) : Int) := by
  obtain ⟨m, rfl⟩ := Int.eq_ofNat_of_zero_le ha
  obtain ⟨n, rfl⟩ := Int.eq_ofNat_of_zero_le hb
  have := or_hex16 ⟨m, by omega⟩ ⟨n, by omega⟩
  rw [show ((m : Int) * 16 + (n : Int)).toNat = m * 16 + n by omega]
  exact this
theorem toList_eq (s : ByteArray) : s.toList = s.data.toList := by
  obtain ⟨⟨l⟩⟩ := s
  exact ByteArray.toList_mk l
theorem toList_length (s : ByteArray) : s.toList.length = s.size := by rw [toList_eq]; simp
theorem toList_isEmpty (t : ByteArray) (h : 0 < t.size) : t.toList.isEmpty = false := by
  cases hl : t.toList.isEmpty with
  | false => rfl
  | true =>
    rw [List.isEmpty_iff] at hl
    have h2 := toList_length t
    rw [hl] at h2
    simp at h2
    omega

set_option maxHeartbeats 800000 in
theorem unesc_any (t : ByteArray) (w : World) (ht : t.size ≤ 100000) :
    Calls Tryd.prog 99 #[.string t] w fun e w' => e = .returned (.tuple #[.int .u8 (unescM t).1.toNat, I (unescM t).2]) ∧ ∃ n, w' = w.drewN n := by
  by_cases h0 : t.size = 0
  · have hem : t.toList.isEmpty = true := by rw [List.isEmpty_iff]; exact List.eq_nil_of_length_eq_zero (by rw [toList_length, h0])
    have hm : unescM t = (0, 0) := by unfold unescM; rw [if_pos h0]
    rw [hm]
    clear h0 hm
    go_enter Tryd.func99, Tryd.ntmps99
    go_wp2_with fail
    go_ret2
    exact ⟨rfl, 0, rfl⟩
  · have hpos : 0 < t.size := by omega
    have hne : t.toList.isEmpty = false := toList_isEmpty t hpos
    have hb0 : t[0] = bt t 0 := bt_at t 0 hpos
    have H0 := Lib.hid h0
    clear h0
    go_enter Tryd.func99, Tryd.ntmps99
    go_wp2_with fail
    all_goals first
      | (go_ret2
         go_light
         refine ⟨ret_pair ?_ ?_, 0, rfl⟩ <;>
           (have h0 := H0.out
            unfold unescM
            simp only [beq_iff_eq, beq_eq_false_iff_ne, ne_eq] at *
            rw [if_neg h0]
            (repeat' split) <;> first | rfl | omega))
      | skip
    have h3 : 3 ≤ t.size := by omega
    have h1 : t[1] = bt t 1 := bt_at t 1 (by omega)
    have h2 : t[2] = bt t 2 := bt_at t 2 (by omega)
    have b1 := hexM_bd (bt t 1)
    have b2 := hexM_bd (bt t 2)
    have HM : Hid (unescM t = if 0 ≤ hexM (bt t 1) ∧ 0 ≤ hexM (bt t 2) then (UInt8.ofNat (hexM (bt t 1) * 16 + hexM (bt t 2)).toNat, 3) else (0, 0)) := by
      refine Lib.hid ?_
      have h0 := H0.out
      go_light
      simp only [beq_iff_eq, beq_eq_false_iff_ne, ne_eq] at *
      unfold unescM
      rw [if_neg h0, if_neg (by omega), if_neg (by omega), if_neg (by omega), if_pos (by omega), if_neg (by omega)]
    by_cases hx : 0 ≤ hexM (bt t 1)
    · by_cases hy : 0 ≤ hexM (bt t 2)
      · go_quiet ((go_at_call 100; exact quiet_left (hex_any _ _)))
        go_wp2_with fail
        go_ret2
        go_light
        have e := HM.out
        rw [if_pos ⟨hx, hy⟩] at e
        rw [e]
        exact ⟨ret_pair (or_hex _ _ hx b1.2 hy b2.2) rfl, _, rfl⟩
      · have hy' : decide (0 ≤ hexM (bt t 2)) = false := by simpa using hy
        go_quiet ((go_at_call 100; exact quiet_left (hex_any _ _)))
        go_wp2_with fail
        go_ret2
        exact ⟨by rw [HM.out, if_neg (by omega)]; rfl, _, rfl⟩
    · have hx' : decide (0 ≤ hexM (bt t 1)) = false := by simpa using hx
      go_quiet ((go_at_call 100; exact quiet_left (hex_any _ _)))
      go_wp2_with fail
      go_ret2
      exact ⟨by rw [HM.out, if_neg (by omega)]; rfl, _, rfl⟩

theorem unescM_le (t : ByteArray) : (unescM t).2 ≤ t.size ∧ (unescM t).2 ≤ 3 := by
  unfold unescM
  (repeat' split) <;> simp <;> omega

/-- How 'character' ends: the byte and the reader behind it, or the fault. -/
def BOut (C : Nat) (w : World) (B g : Nat) (s : ByteArray) (r : Rd) (o : Option (UInt8 × Nat)) (e : Ending) (w' : World) : Prop :=
  match o with
  | some (b, p) => e = .returned (.int .u8 b.toNat) ∧ RdAt w' B g s { r with pos := p } ∧ Keep C g w w'
  | none => e = .panicked [{ v := .iface 28 (fltV ⟨r.start, 27⟩), recovered := false }] ∧ Keep C g w w'

set_option maxHeartbeats 800000 in
theorem character_any (C : Nat) (hR : RdAt w B g s r) (hp : r.pos < s.size) (hs : s.size ≤ 100000) :
    Calls Tryd.prog 97 #[.pointer (some ⟨g, 0, none⟩)] w (BOut C w B g s r (characterM s r.pos)) := by
  obtain ⟨c0, c1, c2, _⟩ := hR.cells
  have f1 := hR.frozen 1
  have hb := bt_at s r.pos hp
  have HR := Lib.hid hR
  clear hR
  by_cases h92 : (bt s r.pos).toNat = 92
  · have hd : ((((bt s r.pos).toNat : Int)) != 92) = false := by simp [h92]
    have hle := unescM_le (s.extract (r.pos + 1) s.size)
    rw [ByteArray.size_extract] at hle
    have hb3 := hle.2
    have hle1 : r.pos + 1 + (unescM (s.extract (r.pos + 1) s.size)).2 ≤ s.size := by omega
    clear hle
    generalize hm : characterM s r.pos = o
    unfold characterM at hm
    rw [if_pos h92] at hm
    clear h92
    by_cases hz : (unescM (s.extract (r.pos + 1) s.size)).2 = 0
    · rw [if_pos hz] at hm
      subst hm
      have hz' : (((unescM (s.extract (r.pos + 1) s.size)).2 : Int) == 0) = true := by simp [hz]
      clear hz
      go_enter Tryd.func97, Tryd.ntmps97
      go_wp2_with fail
      go_quiet (fail)
      go_wp2_with fail
      go_quiet ((go_at_call 99; exact quiet_drawn (unesc_any _ _ (by simp [ByteArray.size_extract]; omega))))
      go_wp2_with (go_at_call 49; refine (fail_any _ _ _).mono ?_; rintro e w' ⟨rfl, rfl⟩)
      exact ⟨rfl, rfl, (((Keep.refl _ _ _).drewN _).at_ _ _).drewN _⟩
    · rw [if_neg hz] at hm
      subst hm
      have hz' : (((unescM (s.extract (r.pos + 1) s.size)).2 : Int) == 0) = false := by simp [hz]
      clear hz
      go_enter Tryd.func97, Tryd.ntmps97
      go_wp2_with fail
      go_quiet (fail)
      go_wp2_with fail
      go_quiet ((go_at_call 99; exact quiet_drawn (unesc_any _ _ (by simp [ByteArray.size_extract]; omega))))
      go_wp2_with fail
      go_ret
      refine ⟨rfl, ?_, ((((Keep.refl _ _ _).drewN _).at_ _ _).drewN _).at_ _ _⟩
      exact (((HR.out.drewN _).pos' (r.pos + 1)).drewN _).pos' (r.pos + 1 + (unescM (s.extract (r.pos + 1) s.size)).2)
  · have hm : characterM s r.pos = some (bt s r.pos, r.pos + 1) := by unfold characterM; rw [if_neg h92]
    rw [hm]
    have hd : ((((bt s r.pos).toNat : Int)) != 92) = true := by simp; omega
    clear h92 hm
    go_enter Tryd.func97, Tryd.ntmps97
    go_wp2_with fail
    go_quiet (fail)
    go_wp2_with fail
    go_ret
    exact ⟨rfl, (HR.out.drewN _).pos' _, ((Keep.refl _ _ _).drewN _).at_ _ _⟩

/-- How 'characters' ends: the bytes and the reader behind them, or the fault. -/
def SOut (w : World) (B g : Nat) (s : ByteArray) (r : Rd) (o : Except Flt (List UInt8 × Nat)) (e : Ending) (w' : World) : Prop :=
  match o with
  | .ok (l, p) => e = .returned (.string (bytesOf l)) ∧ RdAt w' B g s { r with pos := p } ∧ Keep B g w w'
  | .error f => e = .panicked [{ v := .iface 28 (fltV f), recovered := false }] ∧ Keep B g w w'
def u8s (l : List UInt8) : List Value := l.map fun b => .int .u8 (b.toNat : Int)
theorem characterM_lt {s : ByteArray} {p : Nat} {b : UInt8} {p' : Nat} (h : characterM s p = some (b, p')) (hp : p < s.size) : p < p' ∧ p' ≤ s.size := by
  unfold characterM at h
  have hle := unescM_le (s.extract (p + 1) s.size)
  rw [ByteArray.size_extract] at hle
  split at h
  · split at h
    · cases h
    · cases h; omega
  · cases h; omega
theorem info5 : (Tryd.prog.info? 5).map (fun i => (i.zero, i.size, i.bytes)) = some (some (.int .u8 0), 1, 1) := by kernel_rfl
theorem RdAt.kept {w' : World} (h : RdAt w B g s r) (hk : Keep w.heap.size g w w') (hg : w'.heap[g]? = w.heap[g]?) : RdAt w' B g s r := by
  obtain ⟨ov, lv, h1, hlt, hle, ho, hl⟩ := h
  have hkk : ∀ k, B ≤ k → k < w.heap.size → w'.heap[k]? = w.heap[k]? := fun k hB hk2 => hk.block k hk2 (by omega)
  exact ⟨ov, lv, hg.trans h1, hlt, Nat.le_trans hle hk.size, ownsRow_at ho hkk, ownsRow_at hl hkk⟩

end
end Go.Proofs.YtcdidmohgcegmaaDoor
