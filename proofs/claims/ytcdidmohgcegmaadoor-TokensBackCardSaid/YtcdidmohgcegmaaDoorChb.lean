/- Contract of characters: it reads the bytes of a literal up to one of two ends. Conditions: the reader lies at block g, the text is not long. -/
import Derived.Test.YtcdidmohgcegmaaDoorCha
import Derived.Laws.IdiomStrings
import Derived.Laws.BytesArg
namespace Go.Proofs.YtcdidmohgcegmaaDoor
open Go.RowKit
set_option maxRecDepth 100000
attribute [local go_sem ↓ high] builtin_app
section
variable {B g : Nat} {s : ByteArray} {r : Rd} {w : World}

theorem Keep.mono {C : Nat} {w' : World} (h : Keep C g w w') (hB : B ≤ C) : Keep B g w w' := ⟨h.os, h.tape, h.output, h.size, fun k hk hn => h.block k (by omega) hn⟩
theorem RdAt.grown_other {w' : World} {e n sz : Nat} {v : Value} {xs : List Value} (h : RdAt w B g s r) (ho : w.ownsRow B e sz v n xs) (h1 : 79 ≠ e) (h2 : 34 ≠ e) (hg : w.grownBy w' v.ownBlock) : RdAt w' B g s r := by
  obtain ⟨ov, lv, hh, hlt, hle, h3, h4⟩ := h
  exact ⟨ov, lv, (hg.block g (by omega) (Ne.symm (own_ne ho hlt))).trans hh, hlt, Nat.le_trans hle hg.size, own_other h3 ho h1 hg, own_other h4 ho h2 hg⟩
/-- 'string(text)' of a slice of bytes that the call owns. -/
theorem conv_own {v : Value} {acc : List UInt8} (h : w.ownsRow B 5 1 v acc.length (u8s acc)) : ∀ n, (convert 52 9 v).run Tryd.prog (w.drewN n) = .ok (.string (bytesOf acc)) (w.drewN n) := by
  intro n
  rcases h.2 with ⟨rfl, h0⟩ | ⟨k, cap, cur, rfl, hb, hk, hn, hc, hs, ht⟩
  · have : acc = [] := List.eq_nil_of_length_eq_zero h0
    subst this
    exact run_convert_bytes_nil _ 52 5 Tryd.underlying52 Tryd.underlying5 0 0 9 Tryd.underlying9
  · exact run_convert_bytes_back _ 52 9 5 _ cap acc Tryd.underlying52 Tryd.underlying5 Tryd.underlying9 fun j hj => by
      show w.cell? _ = _
      exact h.cells (g := k) rfl j _ (by simp [u8s, List.getElem?_eq_getElem hj])

set_option maxRecDepth 100000 in
set_option maxHeartbeats 2000000 in
theorem chars_any (e o : Int) (hR : RdAt w B g s r) (hp : r.pos ≤ s.size) (hs : s.size ≤ 100000) :
    Calls Tryd.prog 94 #[.pointer (some ⟨g, 0, none⟩), .int .u8 e, .int .u8 o] w (SOut w B g s r (charsM s e o r.start r.pos)) := by
  generalize hm : charsM s e o r.start r.pos = res
  unfold charsM at hm
  have HR := Lib.hid hR
  have hBle := hR.le
  clear hR
  have HM := Lib.hid hm
  clear hm
  go_enter Tryd.func94, Tryd.ntmps94
  go_wp2_with fail
  go_loopg [7] (s.size + 1 - r.pos) (fun n v wr => ∃ (p : Nat) (acc : List UInt8), p ≤ s.size ∧ acc.length ≤ p ∧ Hid (n = s.size + 1 - p) ∧ Hid (∃ f, s.size < f + p ∧ charsK s e o r.start f p acc = res) ∧ wr.ownsRow B 5 1 v acc.length (u8s acc) ∧ RdAt wr B g s { r with pos := p } ∧ Keep B g w wr)
  case atStart => exact ⟨r.pos, [], hp, Nat.zero_le _, rfl, ⟨_, by omega, HM.out⟩, World.ownsRow_nil _ _ _ _, HR.out, Keep.refl _ _ _⟩
  case round =>
    obtain ⟨p, acc, hq, hal, HN, HC, hown, hRq, hK⟩ := hrel
    obtain ⟨c0, c1, c2, _⟩ := hRq.cells
    have HRq := Lib.hid hRq
    have HK := Lib.hid hK
    have HOw := Lib.hid hown
    clear hRq hK hown
    have HP := Lib.hid hp
    clear hp
    by_cases hlt : p < s.size
    · have hb := bt_at s p hlt
      by_cases h32 : 32 ≤ (bt s p).toNat
      · have hd : decide ((32 : Int) ≤ ((bt s p).toNat : Int)) = true := by simp; omega
        obtain ⟨f, hf, HC2⟩ : ∃ f, s.size ≤ f + p ∧ Hid ((if ((bt s p).toNat : Int) = e ∨ ((bt s p).toNat : Int) = o then .ok (acc, p)
            else match characterM s p with
              | none => .error ⟨r.start, 27⟩
              | some (b, p') => charsK s e o r.start f p' (acc ++ [b])) = res) := by
          obtain ⟨f, hf, hc⟩ := HC.out
          cases f with
          | zero => omega
          | succ f => exact ⟨f, by omega, by rw [charsK, if_pos ⟨hlt, h32⟩] at hc; exact hc⟩
        clear HC
        have H32 := Lib.hid h32
        clear h32
        by_cases hq1 : ((bt s p).toNat : Int) = e ∨ ((bt s p).toNat : Int) = o
        · have hres : res = .ok (acc, p) := by have := HC2.out; rw [if_pos hq1] at this; exact this.symm
          subst hres
          have hcv := conv_own HOw.out
          have HQ := Lib.hid hq1
          clear hq1 HC2
          by_cases he : ((bt s p).toNat : Int) = e
          · have t1 : (((bt s p).toNat : Int) == e) = true := by simpa using he
            have HE := Lib.hid he
            clear he
            go_wp2_with fail
            go_quiet (fail)
            go_wp2_with fail
            go_quiet (fail)
            go_wp2_with fail
            go_ret
            exact ⟨rfl, HRq.out.drewN _, HK.out.drewN _⟩
          · have t1 : (((bt s p).toNat : Int) == e) = false := by simpa using he
            have t2 : (((bt s p).toNat : Int) == o) = true := by
              rcases HQ.out with h | h
              · exact absurd h he
              · simpa using h
            have HE := Lib.hid he
            clear he
            go_wp2_with fail
            go_quiet (fail)
            go_wp2_with fail
            go_quiet (fail)
            go_wp2_with fail
            go_ret
            exact ⟨rfl, HRq.out.drewN _, HK.out.drewN _⟩
        · have t1 : (((bt s p).toNat : Int) == e) = false := by simp; exact fun h => hq1 (.inl h)
          have t2 : (((bt s p).toNat : Int) == o) = false := by simp; exact fun h => hq1 (.inr h)
          have HC3 : Hid ((match characterM s p with
              | none => .error ⟨r.start, 27⟩
              | some (b, p') => charsK s e o r.start f p' (acc ++ [b])) = res) := by
            refine Lib.hid ?_
            have := HC2.out
            rw [if_neg hq1] at this
            exact this
          clear HC2 hq1
          go_wp2_with fail
          go_quiet (fail)
          go_wp2_with fail
          go_quiet (fail)
          go_wp2_with fail
          refine (character_any wr.heap.size (HRq.out.drewN _) hlt hs).mono ?_
          rintro e1 w2 h
          change BOut _ _ B g s _ (characterM s p) e1 w2 at h
          cases hcm : characterM s p with
          | none =>
            have HC4 := HC3.out
            rw [hcm] at h HC4
            obtain ⟨rfl, h4⟩ := h
            subst HC4
            clear HC3
            go_wp2_with fail
            exact ⟨rfl, rfl, (HK.out.drewN _).trans (h4.mono HRq.out.le)⟩
          | some x =>
            obtain ⟨b, p'⟩ := x
            have HC4 := HC3.out
            rw [hcm] at h HC4
            obtain ⟨rfl, hR2, hK2⟩ := h
            have hpp := characterM_lt hcm hlt
            have HCC := Lib.hid HC4
            clear HC3 HC4 hcm
            have hown2 : w2.ownsRow B 5 1 u7 acc.length (u8s acc) := ownsRow_at HOw.out fun k hB hk => hK2.block k hk (by have := HRq.out.lt; omega)
            have HR2 := Lib.hid hR2
            have HK2 := Lib.hid hK2
            have hsz2 := hR2.le
            have hlt2 := hR2.lt
            clear hR2 hK2
            obtain ⟨i0, hi, hz0, hz1, hz2⟩ := info_parts info5
            have HI := Lib.hid (And.intro hi (And.intro hz0 (And.intro hz1 hz2)))
            clear hi hz0 hz1 hz2
            obtain ⟨gg, cap, w3, hr, hown3, hgrow, hat, hlt3⟩ := run_append_lies (P := Tryd.prog) (w2.alloc (.cells #[.int .u8 (b.toNat : Int)] 5)) 52 52 B 5 i0 _ 1 1 Tryd.underlying52 HI.out.1 HI.out.2.1 HI.out.2.2.1 HI.out.2.2.2 rfl (by omega) u7 acc.length (u8s acc) (hown2.alloc _)
              ⟨w2.heap.size, 0, none⟩ 1 1 [.int .u8 (b.toNat : Int)] (by rfl) (World.news_of_block (cs := #[.int .u8 (b.toNat : Int)]) (t := 5) (fr := (0, 0)) (heap_alloc_new w2 _)) (by simp [Value.oneCell'])
              (by omega) (by unfold maxLen; omega) (by omega) (by simp; omega) (w2.heap.size + 1) (by simp)
            have hra : (App #[52, 52] 52 #[u7, .slice (some ⟨w2.heap.size, 0, none⟩) 1 1]).run Tryd.prog (w2.alloc (.cells #[.int .u8 (b.toNat : Int)] 5)) = .ok (.slice (some ⟨gg, 0, none⟩) (acc.length + 1) cap) w3 := hr
            have HOwn3 := Lib.hid hown3
            have HGrow := Lib.hid hgrow
            have HO2 := Lib.hid hown2
            clear hr hown3 hgrow hat hown2
            go_wp2_with fail
            go_roundg (s.size + 1 - p')
            case measure => have := HN.out; omega
            case rel =>
              refine ⟨p', acc ++ [b], hpp.2, by simp; omega, rfl, ⟨f, by omega, HCC.out⟩, ?_, ?_, ?_⟩
              · simpa [u8s] using HOwn3.out
              · exact (HR2.out.alloc _).grown_other (HO2.out.alloc _) (by decide) (by decide) HGrow.out
              · exact (((HK.out.drewN _).trans (HK2.out.mono HRq.out.le)).alloc hsz2 _).grown HGrow.out (by simp; omega) fun k hk => own_ge HO2.out hk
      · have hd : decide ((32 : Int) ≤ ((bt s p).toNat : Int)) = false := by simp; omega
        have hres : res = .error ⟨r.start, 27⟩ := by
          obtain ⟨f, hf, hc⟩ := HC.out
          cases f with
          | zero => omega
          | succ f => rw [charsK, if_neg (by omega)] at hc; exact hc.symm
        subst hres
        have H32 := Lib.hid h32
        clear h32
        go_wp2_with fail
        go_quiet (fail)
        go_wp2_with (go_at_call 49; refine (fail_any _ _ _).mono ?_; rintro e w' ⟨rfl, rfl⟩)
        exact ⟨rfl, rfl, HK.out.drewN _⟩
    · have hge : decide (p < s.size) = false := by simpa using hlt
      have hres : res = .error ⟨r.start, 27⟩ := by
        obtain ⟨f, hf, hc⟩ := HC.out
        cases f with
        | zero => omega
        | succ f => rw [charsK, if_neg (by omega)] at hc; exact hc.symm
      subst hres
      have HL := Lib.hid hlt
      clear hlt
      go_wp2_with fail
      go_quiet (fail)
      go_wp2_with (go_at_call 49; refine (fail_any _ _ _).mono ?_; rintro e w' ⟨rfl, rfl⟩)
      exact ⟨rfl, rfl, HK.out.drewN _⟩
end
end Go.Proofs.YtcdidmohgcegmaaDoor
