/- Sets in maps (map[int]bool, map[string]bool), and twice, within of package symbols. Conditions: what each theorem names. -/
import Derived.Test.YtfbaikijnjafbaaGreatDoorSb
import Derived.Maps.OwnSet
namespace Go.Proofs.YtfbaikijnjafbaaGreatDoor
set_option linter.unusedSimpArgs false
set_option linter.unusedVariables false
open Go.RowKit Go.Maps
set_option maxRecDepth 100000

abbrev litF : DataW Unit := .lit (.bool false)
abbrev litT : DataW Unit := .lit (.bool true)
noncomputable abbrev elB : Value → Option (DataW Unit × List MemPlace) := plainElem Tryz.prog 4
/-- Block b is a map whose keys with true are those of S. -/
def SetAt (w : World) (k : TypeId) (b n : Nat) (S : List Lit) : Prop :=
  ∃ D : DataW Unit, w.ownsMap Tryz.prog k elB b n D ∧ IsMap D ∧ (∀ kl, kl ∈ S → D.atKey kl litF = litT) ∧ ∀ kl, kl ∉ S → D.atKey kl litF = litF
theorem set_made (w : World) (k : TypeId) : SetAt (w.alloc (.map #[] 0)) k w.heap.size 0 [] :=
  ⟨_, World.ownsMap_made w _ _ _, ⟨_, rfl⟩, fun kl h => (by cases h), fun kl _ => rfl⟩
theorem SetAt.kept {w w' : World} {k : TypeId} {b n : Nat} {S : List Lit} (h : SetAt w k b n S) (hb : w'.heap[b]? = w.heap[b]?) : SetAt w' k b n S := by
  obtain ⟨D, ⟨es, clock, h1, h2, h3, h4⟩, h5⟩ := h
  exact ⟨D, ⟨es, clock, hb.trans h1, h2, h3, h4⟩, h5⟩
theorem SetAt.look {w : World} {k t : TypeId} {b n : Nat} {S : List Lit} (h : SetAt w k b n S) (K : Keyed Tryz.prog k) (ht : Tryz.prog.underlying t = some (.map k 4)) {key : Value} {kl : Lit} (hkey : keyOf Tryz.prog k key = some kl) :
    ∃ r : Bool, (Instr.lookup t (.map (some b)) key false).run Tryz.prog w = .ok (.bool r) w ∧ (r = true ↔ kl ∈ S) := by
  obtain ⟨D, ⟨es, clock, h1, h2, h3, h4⟩, h5, h6, h7⟩ := h
  have hz : (zeroValue 4).run Tryz.prog w = .ok (.bool false) w := by kernel_rfl
  subst h4
  rcases Maps.fit_look false K ht hz h1 h2 hkey with ⟨hrun, _, hat⟩ | ⟨e0, y, _, _, hrun, hRv, hat, _⟩
  · refine ⟨false, hrun, ?_⟩
    constructor
    · intro e; cases e
    · intro hm
      have a := h6 kl hm
      rw [hat] at a
      cases a
  · have hv : ∃ c, e0.val = .bool c ∧ y.1 = .lit (.bool c) := by
      unfold elB plainElem at hRv
      rw [Tryz.underlying4] at hRv
      cases hv : e0.val <;> rw [hv] at hRv <;> simp at hRv
      rename_i c
      exact ⟨c, rfl, by rw [← hRv]⟩
    obtain ⟨c, hc, hy⟩ := hv
    refine ⟨c, by rw [hrun, hc]; rfl, ?_⟩
    have a := hat litF
    rw [hy] at a
    constructor
    · intro e
      subst e
      exact Classical.byContradiction fun hn => by have := h7 kl hn; rw [this] at a; cases a
    · intro hm
      have := h6 kl hm
      rw [this] at a
      cases a
      rfl
theorem SetAt.store {w : World} {k t : TypeId} {b n : Nat} {S : List Lit} (h : SetAt w k b n S) (K : Keyed Tryz.prog k) (ht : Tryz.prog.underlying t = some (.map k 4)) (hn : n < maxLen) {key : Value} {kl : Lit} (hkl : WideAt.IsKeyLit kl) (hkey : keyOf Tryz.prog k key = some kl) :
    ∃ w', (Instr.mapUpdate t (.map (some b)) key (.bool true)).run Tryz.prog w = .ok () w' ∧ SetAt w' k b (n + 1) (kl :: S) ∧ w.grownBy w' (some b) := by
  obtain ⟨D, h1, h5, h6, h7⟩ := h
  obtain ⟨w', hrun, hown, ht⟩ := h1.store K ht hn hkey (plainElem_bool Tryz.underlying4 true)
  refine ⟨w', hrun, ⟨_, hown, ?_, ?_, ?_⟩, ht.grown⟩
  · obtain ⟨es, rfl⟩ := h5
    exact ⟨_, rfl⟩
  · intro kl' hm
    by_cases e : kl' = kl
    · subst e; exact atKey_put_same h5 hkl _ _
    · rw [atKey_put_other e]
      exact h6 kl' (by simpa [e] using hm)
  · intro kl' hm
    have e : kl' ≠ kl := fun e => hm (by simp [e])
    rw [atKey_put_other e]
    exact h7 kl' (fun h => hm (by simp [h]))

theorem ukey86 : Tryz.prog.underlying 90 = some (.map 3 4) := Tryz.underlying90
theorem int3 : Keyed Tryz.prog 3 := int_keyed Tryz.underlying3
def lits (l : List Int) : List Lit := l.map (Lit.int .i64)
theorem mem_lits {l : List Int} {x : Int} : Lit.int .i64 x ∈ lits l ↔ l.contains x = true := by
  unfold lits
  rw [List.mem_map, List.contains_iff_mem]
  constructor
  · rintro ⟨a, h, e⟩
    cases e
    exact h
  · intro h
    exact ⟨x, h, rfl⟩
/-- Sets of ints: the look-up, the store. -/
theorem SetAt.lookI {w : World} {b n : Nat} {l : List Int} (h : SetAt w 3 b n (lits l)) {x : Int} (hx : wf x) : (Instr.lookup 90 (.map (some b)) (I x) false).run Tryz.prog w = .ok (.bool (l.contains x)) w := by
  obtain ⟨r, h1, h2⟩ := h.look int3 ukey86 (keyOf_int_mk Tryz.underlying3 hx)
  rw [h1]
  have : r = l.contains x := by
    rw [mem_lits] at h2
    exact Bool.eq_iff_iff.2 h2
  rw [this]
theorem SetAt.storeI {w : World} {b n : Nat} {l : List Int} (h : SetAt w 3 b n (lits l)) {x : Int} (hx : wf x) (hn : n < maxLen) :
    ∃ w', (Instr.mapUpdate 90 (.map (some b)) (I x) (.bool true)).run Tryz.prog w = .ok () w' ∧ SetAt w' 3 b (n + 1) (lits (x :: l)) ∧ w.grownBy w' (some b) :=
  h.store int3 ukey86 hn (kl := .int .i64 x) (int3.key (keyOf_int_mk Tryz.underlying3 hx)) (keyOf_int_mk Tryz.underlying3 hx)

def twL (seen : List Int) : List Int → Bool
  | [] => false
  | x :: l => if seen.contains x then true else twL (x :: seen) l
def twiceB (l : List Int) : Bool := twL [] l
set_option maxHeartbeats 800000 in
theorem twice_any {ok : Nat → Prop} (a : Option Addr) (cap : Nat) (l : List Int) (w : World) (hs : IntsL ok w ⟨a, cap, l⟩) (hok : ∀ k, ok k → k < w.heap.size) :
    Calls Tryz.prog 98 #[.slice a l.length cap] w (Bof w (.bool (twiceB l))) := by
  have hl : l.length ≤ 140737488355328 := by
    have h1 := hs.1.1; have h2 := hs.1.2.1
    dsimp only at h1 h2
    omega
  unfold Bof
  generalize hres : twiceB l = res
  have HR := Lib.hid hres
  have HS := Lib.hid hs
  have HL := Lib.hid hl
  have HO := Lib.hid hok
  have HM := Lib.hid (set_made w 3)
  have HB := Lib.hid ((Below.refl w.heap.size w).alloc (Nat.le_refl _) (.map #[] 0))
  clear hs hl hres hok
  have hmm := @run_makeMap Tryz.prog
  go_enter Tryz.func98, Tryz.ntmps98
  go_wp2_with fail
  go_loopg [9] (l.length + 1) (fun n v wr => ∃ i : Nat, ∃ seen : List Int, i ≤ l.length ∧ v = .int .i64 i ∧ Hid (n = l.length + 1 - i) ∧ Hid (twL seen (l.drop i) = res) ∧ Hid (SetAt wr 3 w.heap.size i (lits seen)) ∧ Hid (Below w.heap.size w wr))
  case atStart => exact ⟨0, [], by omega, rfl, rfl, HR.out, HM.out, HB.out⟩
  case round =>
    obtain ⟨i, seen, hi, rfl, HN, HD, HM, HB⟩ := hrel
    by_cases hlt : i < l.length
    · have d2 : ((i : Int) < (l.length : Int)) := by omega
      obtain ⟨b, o, ha, hok, hcs⟩ := sl_at HS.out.1 (by show 0 < l.length; omega)
      dsimp only at ha
      subst ha
      have hx : wf l[i] := HS.out.2 _ (List.getElem_mem hlt)
      have ht : wr.cell? ⟨b, o + i, none⟩ = some (I l[i]) := by have := ((hcs i hlt).same (HB.out.block b (HO.out b hok))) 0 (by simp); simpa using this
      have HD2 : Hid ((if seen.contains l[i] then true else twL (l[i] :: seen) (l.drop (i + 1))) = res) := by have := HD.out; rw [List.drop_eq_getElem_cons hlt] at this; exact this
      clear hcs hok HD
      generalize l[i] = y at *
      have hlook := HM.out.lookI hx
      cases e1 : seen.contains y with
      | true =>
        obtain rfl : true = res := by have := HD2.out; rw [e1] at this; exact this
        rw [e1] at hlook
        go_wp2_with fail
        go_ret
        exact ⟨rfl, HB.out⟩
      | false =>
        have HD3 : Hid (twL (y :: seen) (l.drop (i + 1)) = res) := by have := HD2.out; rw [e1] at this; exact this
        clear HD2
        rw [e1] at hlook
        obtain ⟨w2, hst, hs2, hg2⟩ := HM.out.storeI hx (by have := HL.out; unfold maxLen; omega)
        have HS2 := Lib.hid hs2
        have HB2 := Lib.hid (HB.out.grown hg2 HB.out.size (fun k e => by cases e; exact Nat.le_refl _))
        clear hs2 hg2 hx
        go_wp2_with fail
        have := HL.out
        go_roundg (l.length + 1 - (i + 1))
        case measure => have := HN.out; omega
        case rel => exact ⟨i + 1, y :: seen, by omega, by first | go_num | (rw [IntWalk.wrap64_in _ (by omega)]; go_num), rfl, HD3, HS2, HB2⟩
    · obtain rfl : i = l.length := by omega
      obtain rfl : false = res := by have := HD.out; rw [List.drop_length] at this; exact this
      go_wp2_with fail
      go_ret
      exact ⟨rfl, HB.out⟩
end Go.Proofs.YtfbaikijnjafbaaGreatDoor
