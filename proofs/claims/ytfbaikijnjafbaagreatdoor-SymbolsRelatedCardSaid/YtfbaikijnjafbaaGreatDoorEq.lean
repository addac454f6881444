/- slices.Equal over ints; slices.Clone over classes. -/
import Derived.Test.YtfbaikijnjafbaaGreatDoorTr
namespace Go.Proofs.YtfbaikijnjafbaaGreatDoor
set_option linter.unusedSimpArgs false
set_option linter.unusedVariables false
open Go.RowKit
set_option maxRecDepth 100000

def eqM : List Int → List Int → Bool
  | [], [] => true
  | a :: l, b :: m => a == b && eqM l m
  | _, _ => false
theorem eqM_len : ∀ (l m : List Int), l.length ≠ m.length → eqM l m = false
  | [], [], h => absurd rfl h
  | [], _ :: _, _ => rfl
  | _ :: _, [], _ => rfl
  | a :: l, b :: m, h => by simp only [eqM, eqM_len l m (by simpa using h), Bool.and_false]
theorem eqM_eq : ∀ (l m : List Int), eqM l m = (l == m)
  | [], [] => rfl
  | [], _ :: _ => rfl
  | _ :: _, [] => rfl
  | a :: l, b :: m => by simp only [eqM, eqM_eq l m]; rfl

theorem drewN2 (w : World) (a b : Nat) : (w.drewN a).drewN b = w.drewN (a + b) := by
  unfold World.drewN
  simp [Nat.add_assoc]

set_option maxHeartbeats 800000 in
theorem eq22_any {ok : Nat → Prop} (s t : Sl Int) (w : World) (hs : IntsL ok w s) (ht : IntsL ok w t) : Calls Tryz.prog 14 #[s.v, t.v] w fun e w' => e = .returned (.bool (eqM s.l t.l)) ∧ ∃ n, w' = w.drewN n := by
  obtain ⟨a, cap, l⟩ := s
  obtain ⟨a', cap', m⟩ := t
  have hl : l.length ≤ 140737488355328 := by
    have h1 := hs.1.1; have h2 := hs.1.2.1
    dsimp only at h1 h2
    omega
  unfold Sl.v
  dsimp only
  by_cases hlen : l.length = m.length
  · have d1 : ((l.length : Int) == (m.length : Int)) = true := by simp [hlen]
    generalize hres : eqM l m = res
    have HR := Lib.hid hres
    have HS := Lib.hid hs
    have HT := Lib.hid ht
    have HL := Lib.hid hl
    have HN0 := Lib.hid hlen
    clear hs ht hl hres hlen
    go_enter Tryz.func14, Tryz.ntmps14
    go_wp2_with fail
    go_loopg [13] (l.length + 1) (fun n v wr => ∃ i : Nat, i ≤ l.length ∧ v = .int .i64 i ∧ Hid (n = l.length + 1 - i) ∧ Hid (eqM (l.drop i) (m.drop i) = res) ∧ ∃ q, wr = w.drewN q)
    case atStart => exact ⟨0, by omega, rfl, rfl, HR.out, 0, rfl⟩
    case round =>
      obtain ⟨i, hi, rfl, HN, HD, q, rfl⟩ := hrel
      by_cases hlt : i < l.length
      · have d2 : ((i : Int) < (l.length : Int)) := by omega
        have hlt' : i < m.length := by have := HN0.out; omega
        have d3 : ((i : Int) < (m.length : Int)) := by omega
        obtain ⟨b, o, ha, _, hcs⟩ := sl_at HS.out.1 (by show 0 < l.length; omega)
        obtain ⟨b', o', ha', _, hcs'⟩ := sl_at HT.out.1 (by show 0 < m.length; omega)
        dsimp only at ha ha'
        subst ha ha'
        have t0 : w.cell? ⟨b, o + i, none⟩ = some (I l[i]) := by have := hcs i hlt 0 (by simp); simpa using this
        have t1 : w.cell? ⟨b', o' + i, none⟩ = some (I m[i]) := by have := hcs' i hlt' 0 (by simp); simpa using this
        have HD2 : Hid ((l[i] == m[i] && eqM (l.drop (i + 1)) (m.drop (i + 1))) = res) := by have := HD.out; rw [List.drop_eq_getElem_cons hlt, List.drop_eq_getElem_cons hlt'] at this; exact this
        clear hcs hcs' HD
        generalize l[i] = y at *
        generalize m[i] = z at *
        have hL := HL.out
        cases hy : (y == z) with
        | false =>
          have hd := HD2.out
          rw [hy, Bool.false_and] at hd
          subst hd
          clear HD2
          go_wp2_with fail
          go_quiet (fail)
          go_wp2_with fail
          go_ret
          exact ⟨rfl, _, drewN2 _ _ _⟩
        | true =>
          have hd := HD2.out
          rw [hy, Bool.true_and] at hd
          have HD3 := Lib.hid hd
          clear HD2 hd
          go_wp2_with fail
          go_quiet (fail)
          go_wp2_with fail
          go_roundg (l.length + 1 - (i + 1))
          case measure => have := HN.out; omega
          case rel => exact ⟨i + 1, by omega, by first | go_num | (rw [IntWalk.wrap64_in _ (by omega)]; go_num), rfl, HD3.out, _, rfl⟩
      · obtain rfl : i = l.length := by omega
        go_wp2_with fail
        go_ret
        have h1 := HD.out
        have h2 := HN0.out
        rw [List.drop_length, h2, List.drop_length] at h1
        subst h1
        exact ⟨rfl, _, rfl⟩
  · have d1 : ((l.length : Int) == (m.length : Int)) = false := by simp; omega
    rw [eqM_len l m hlen]
    clear hs ht hl hlen
    go_enter Tryz.func14, Tryz.ntmps14
    go_wp2_with fail
    go_ret
    exact ⟨rfl, 0, rfl⟩

theorem cls_len (c : Cls) : c.cells.length = 13 := rfl
theorem cls_one {T : Cls} {u : Value} (h : u ∈ T.cells) : u.oneCell' = true := by
  simp only [Cls.cells, List.mem_cons, List.not_mem_nil, or_false] at h
  rcases h with rfl | rfl | rfl | rfl | rfl | rfl | rfl | rfl | rfl | rfl | rfl | rfl | rfl <;> rfl
theorem info43 : (Tryz.prog.info? 54).map (fun i => (i.zero, i.size, i.bytes)) = some (some (.agg #[.string ByteArray.empty, .int .i64 0, .int .i64 0, .int .i64 0, .slice none 0 0, .slice none 0 0, .slice none 0 0, .slice none 0 0, .slice none 0 0, .slice none 0 0, .slice none 0 0, .slice none 0 0, .int .i64 0]), 13, 240) := by kernel_rfl

theorem not_nil22 (b o n cap : Nat) (w : World) : (binOp .eql 22 (.slice (some ⟨b, o, none⟩) n cap) (.slice none 0 0)).run Tryz.prog w = .ok (.bool false) w := by kernel_rfl

attribute [local go_sem ↓ high] builtin_app
/-- slices.Clone of a list of classes that is not empty: the same classes in a new block. -/
theorem clone40_any {ok : Nat → Prop} (s : Sl Cls) (w : World) (hs : SlAt ok w 13 240 Cls.cells s) (hne : 0 < s.l.length) (hbig : s.l.length ≤ 500) :
    Calls Tryz.prog 30 #[s.v] w fun e w' => ∃ g cap cur, e = .returned (.slice (some ⟨g, 0, none⟩) s.l.length cap) ∧ w.heap.size ≤ g ∧ s.l.length ≤ cap ∧ w'.heap[g]? = some (.cells cur 54 (0, 0)) ∧ (∀ j, j < s.l.length * 13 → cur[j]? = (s.l.flatMap Cls.cells)[j]?) ∧ Below w.heap.size w w' := by
  obtain ⟨b, o, ha, _, hcs⟩ := sl_at hs hne
  obtain ⟨a, cap, l⟩ := s
  dsimp only at ha hne hbig hcs ⊢
  subst ha
  unfold Sl.v
  dsimp only
  have hnews : ∀ j u, (l.flatMap Cls.cells)[j]? = some u → ((w.alloc (.cells #[] 54))).cell? ((⟨b, o, none⟩ : Addr).add j) = some u := fun j u hj => by
    obtain ⟨i, hi, e, hu⟩ := flat_some cls_len (by omega) hj
    have h1 := hcs i hi (j % 13) (by rw [cls_len]; omega)
    have h2 : w.cell? ⟨b, o + j, none⟩ = some u := by rw [e, ← Nat.add_assoc, h1]; exact hu
    rw [WideShapes.add_plain, World.cell?_alloc_lt _ _ _ (cell_spot h2).2]
    exact h2
  have hone : ∀ u ∈ l.flatMap Cls.cells, u.oneCell' = true := fun u hu => by
    obtain ⟨T, _, hT⟩ := List.mem_flatMap.1 hu
    exact cls_one hT
  obtain ⟨i0, hi0, hz0, hz1, hz2⟩ := info_parts info43
  obtain ⟨v', w', hr, ho, hg, _, hblk⟩ := run_append_own_at (P := Tryz.prog) (w := w.alloc (.cells #[] 54)) w.heap.size 22 22 54 i0 _ 13 240 Tryz.underlying22 hi0 hz0 hz1 hz2 rfl (by omega) (Value.slice (some ⟨w.heap.size, 0, none⟩) 0 0) 0 []
    ⟨rfl, .inr ⟨w.heap.size, 0, #[], rfl, Nat.le_refl _, heap_alloc_new _ _, by omega, by unfold maxLen; omega, rfl, rfl⟩⟩
    ⟨b, o, none⟩ l.length cap (l.flatMap Cls.cells) (flat_len cls_len l) hnews hone (by unfold maxLen; omega) (by omega) (by simp)
  have hra : (App #[22, 22] 22 #[.slice (some ⟨w.heap.size, 0, none⟩) 0 0, .slice (some ⟨b, o, none⟩) l.length cap]).run Tryz.prog (w.alloc (.cells #[] 54)) = .ok v' w' := hr
  have HO := Lib.hid ho
  have HG := Lib.hid hg
  clear hs hcs hnews hone hr ho hg hblk hi0 hz0 hz1 hz2
  have hq := fun (w : World) => not_nil22 b o l.length cap w
  go_enter Tryz.func30, Tryz.ntmps30
  go_wp2_with fail
  go_ret
  rcases HO.out.2 with ⟨_, h⟩ | ⟨g', cap', cur, rfl, hge, hh, hcap, _, _, htk⟩
  · omega
  · refine ⟨g', cap', cur, by rw [Nat.zero_add]; rfl, hge, by omega, hh, fun j hj => ?_, ?_⟩
    · rw [← List.nil_append (l.flatMap Cls.cells), ← htk, List.getElem?_take_of_lt (by omega)]
      simp
    · exact ((Below.refl w.heap.size w).alloc (Nat.le_refl _) _).grown HG.out (by simp) (fun k hk => by simp [Value.ownBlock] at hk; omega)
end Go.Proofs.YtfbaikijnjafbaaGreatDoor
