/- Contract of checkBytes. -/
import Derived.Test.YtcdidmohgcegmaaDoorRda
import Derived.Deep.Light
namespace Go.Proofs.YtcdidmohgcegmaaDoor
open Go.RowKit

def COut (w : World) (o : Except Flt Unit) (e : Ending) (w' : World) : Prop :=
  match o with
  | .ok () => e = .returned (.tuple #[]) ∧ w = w'
  | .error f => e = .panicked [{ v := .iface 28 (fltV f), recovered := false }] ∧ w = w'

set_option maxHeartbeats 800000 in
theorem check_any (s : ByteArray) (w : World) :
    Calls Tryd.prog 40 #[.string s] w (COut w (checkM s)) := by
  by_cases hbig : 65536 < s.size
  · have hm : checkM s = .error ⟨0, 18⟩ := by unfold checkM; rw [if_pos hbig]
    rw [hm]
    clear hm
    go_enter Tryd.func40, Tryd.ntmps40
    go_wp2_with (go_at_call 49; refine (fail_any _ _ _).mono ?_; rintro e w' ⟨rfl, rfl⟩)
    exact ⟨rfl, rfl, rfl⟩
  · have hsm : s.size ≤ 65536 := by omega
    clear hbig
    go_enter Tryd.func40, Tryd.ntmps40
    go_wp2_with fail
    go_loopg [2, 3, 10] s.size (fun n _ _ v wr => ∃ q : Nat, q ≤ s.size ∧ v = I q ∧ Hid (n = s.size - q) ∧ Hid (runM s (fun i => !badByte (bt s i)) q = runM s (fun i => !badByte (bt s i)) 0) ∧ w = wr)
    case atStart => exact ⟨0, Nat.zero_le _, rfl, rfl, rfl, rfl⟩
    case round =>
      obtain ⟨q, hq, rfl, HN, HE, rfl⟩ := hrel
      by_cases hlt : q < s.size
      · have hb := bt_at s q hlt
        go_wp2_with (go_at_call 49; refine (fail_any _ _ _).mono ?_; rintro e w' ⟨rfl, rfl⟩)
        all_goals first
          | (go_roundg (s.size - (q + 1))
             case measure => have := HN.out; omega
             case rel =>
               refine ⟨q + 1, by omega, by go_num, rfl, ?_, rfl⟩
               go_light
               refine Eq.trans (runM_yes hlt ?_).symm HE.out
               unfold badByte
               simp only [bne_eq_false_iff_eq, ne_eq] at *
               simp
               omega)
          | (go_light
             have hbad : badByte (bt s q) = true := by
               unfold badByte
               simp only [bne_iff_ne, ne_eq] at *
               simp
               omega
             have hr : runM s (fun i => !badByte (bt s i)) 0 = q := by rw [← HE.out]; exact runM_no (by simp [hbad])
             have hm : checkM s = .error ⟨q, 27⟩ := by unfold checkM; rw [if_neg (by omega), hr, if_pos hlt]
             rw [hm]
             exact ⟨rfl, rfl, rfl⟩)
      · have hge : s.size ≤ q := by omega
        clear hlt
        go_wp2_with fail
        go_end0
        have hm : checkM s = .ok () := by
          unfold checkM
          rw [if_neg (by omega), ← HE.out, runM_end hge, if_neg (by omega)]
        rw [hm]
        exact ⟨rfl, rfl⟩
end Go.Proofs.YtcdidmohgcegmaaDoor
