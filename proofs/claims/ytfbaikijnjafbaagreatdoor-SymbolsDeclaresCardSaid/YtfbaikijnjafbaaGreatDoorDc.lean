/- slices.Equal over references to members. -/
import Derived.Test.YtfbaikijnjafbaaGreatDoorDa
import Derived.Test.YtfbaikijnjafbaaGreatDoorEq
import Derived.Laws.StructEq
namespace Go.Proofs.YtfbaikijnjafbaaGreatDoor
set_option linter.unusedSimpArgs false
set_option linter.unusedVariables false
open Go.RowKit
set_option maxRecDepth 100000

theorem neq40 (a b c d : Int) (w : World) : (binOp .neq 40 (.agg #[I a, I b]) (.agg #[I c, I d])).run Tryz.prog w = .ok (.bool (!(a == c && b == d))) w := by
  rw [run_neq_struct, run_equalIn_agg _ _ 40 _ _ (by kernel_rfl) (by kernel_rfl)]
  have hf : Tryz.prog.fieldsOf 40 = (match Tryz.prog.underlying 40 with | some (.struct fs) => fs | _ => #[]) := by kernel_rfl
  rw [hf, Tryz.underlying40]
  have h0 : ∀ w, (part 3 #[I a, I b] 0).run Tryz.prog w = .ok (I a) w := fun w => by kernel_rfl
  have h1 : ∀ w, (part 3 #[I a, I b] 1).run Tryz.prog w = .ok (I b) w := fun w => by kernel_rfl
  have h2 : ∀ w, (part 3 #[I c, I d] 0).run Tryz.prog w = .ok (I c) w := fun w => by kernel_rfl
  have h3 : ∀ w, (part 3 #[I c, I d] 1).run Tryz.prog w = .ok (I d) w := fun w => by kernel_rfl
  have e1 : ∀ w, (Op.equalIn 9999 3 (I a) (I c)).run Tryz.prog w = .ok (a == c) w := fun w => run_equalIn_int _ 9998 3 _ _ _ _ Tryz.underlying3
  have e2 : ∀ w, (Op.equalIn 9999 3 (I b) (I d)).run Tryz.prog w = .ok (b == d) w := fun w => run_equalIn_int _ 9998 3 _ _ _ _ Tryz.underlying3
  simp only [Op.eqFields, Sem.run_bind, Sem.run_ite, h0, h1, h2, h3, e1, e2, Result.andThen_ok, Sem.run_pure]
  cases (a == c) <;> cases (b == d) <;> simp

/-- Equal lists are equal. -/
theorem eq11_same {ok : Nat → Prop} (s t : Sl (Int × Int)) (w : World) (hs : RefsL ok w s) (ht : RefsL ok w t) (he : s.l = t.l) : Calls Tryz.prog 11 #[s.v, t.v] w fun e w' => e = .returned (.bool true) ∧ ∃ n, w' = w.drewN n := by
  obtain ⟨a, cap, l⟩ := s
  obtain ⟨a', cap', m⟩ := t
  dsimp only at he
  subst he
  have hl : l.length ≤ 140737488355328 := by
    have h1 := hs.1; have h2 := hs.2.1
    dsimp only at h1 h2
    omega
  unfold Sl.v
  dsimp only
  have HS := Lib.hid hs
  have HT := Lib.hid ht
  have HL := Lib.hid hl
  have hnq := fun (x y : Int) (w : World) => neq40 x y x y w
  clear hs ht hl
  go_enter Tryz.func11, Tryz.ntmps11
  go_wp2_with fail
  go_loopg [13] (l.length + 1) (fun n v wr => ∃ i : Nat, i ≤ l.length ∧ v = .int .i64 i ∧ Hid (n = l.length + 1 - i) ∧ ∃ q, wr = w.drewN q)
  case atStart => exact ⟨0, by omega, rfl, rfl, 0, rfl⟩
  case round =>
    obtain ⟨i, hi, rfl, HN, q, rfl⟩ := hrel
    by_cases hlt : i < l.length
    · have d2 : ((i : Int) < (l.length : Int)) := by omega
      obtain ⟨b, o, ha, _, hcs⟩ := sl_at HS.out (by show 0 < l.length; omega)
      obtain ⟨b', o', ha', _, hcs'⟩ := sl_at HT.out (by show 0 < l.length; omega)
      dsimp only at ha ha'
      subst ha ha'
      have t0 : w.cell? ⟨b, o + i * 2, none⟩ = some (I l[i].1) := hcs i hlt 0 (by simp [refC])
      have t1 : w.cell? ⟨b, o + i * 2 + 1, none⟩ = some (I l[i].2) := hcs i hlt 1 (by simp [refC])
      have t2 : w.cell? ⟨b', o' + i * 2, none⟩ = some (I l[i].1) := hcs' i hlt 0 (by simp [refC])
      have t3 : w.cell? ⟨b', o' + i * 2 + 1, none⟩ = some (I l[i].2) := hcs' i hlt 1 (by simp [refC])
      clear hcs hcs'
      generalize l[i] = y at *
      obtain ⟨y1, y2⟩ := y
      dsimp only at t0 t1 t2 t3
      have hq := hnq y1 y2
      simp only [BEq.rfl, Bool.and_true, Bool.not_true] at hq
      have hL := HL.out
      go_wp2_with fail
      go_quiet (fail)
      go_wp2_with fail
      go_roundg (l.length + 1 - (i + 1))
      case measure => have := HN.out; omega
      case rel => exact ⟨i + 1, by omega, by first | go_num | (rw [IntWalk.wrap64_in _ (by omega)]; go_num), rfl, _, rfl⟩
    · obtain rfl : i = l.length := by omega
      go_wp2_with fail
      go_ret
      exact ⟨rfl, _, rfl⟩
end Go.Proofs.YtfbaikijnjafbaaGreatDoor
