/- Contracts of the small functions of the layouter. -/
import Derived.Test.YtcdidmohgcegmaaDoorLya
namespace Go.Proofs.YtcdidmohgcegmaaDoor
open Go.RowKit
set_option maxRecDepth 100000

def tokV (t : Tok) : Value := .agg #[I t.kind, .string t.text, I t.pos, I t.line, I t.col]
def tokO (t : Tok) : Obj := .cells #[I t.kind, .string t.text, I t.pos, I t.line, I t.col] 34 (0, 0)
def rgV (r : Rg) : Value := .agg #[.string r.mark, I r.width, I r.index]
def rgO (r : Rg) : Obj := .cells #[.string r.mark, I r.width, I r.index] 85 (0, 0)
def openerM (t : Tok) : Bool :=
  (t.kind == 3 && (t.text.toList == [58] || t.text.toList == [61] || t.text.toList == [61, 62] || t.text.toList == [60, 45])) ||
  (t.kind == 1 && (t.text.toList == [116, 104, 101, 110] || t.text.toList == [101, 108, 115, 101] || t.text.toList == [100, 111] || t.text.toList == [109, 97, 116, 99, 104] || t.text.toList == [116, 114, 121] ||
    t.text.toList == [99, 97, 116, 99, 104] || t.text.toList == [102, 105, 110, 97, 108, 108, 121] || t.text.toList == [121, 105, 101, 108, 100] || t.text.toList == [114, 101, 116, 117, 114, 110] || t.text.toList == [116, 104, 114, 111, 119]))
def unfMarkM (s : ByteArray) : Bool :=
  s.toList == [40] || s.toList == [91] || s.toList == [123] || s.toList == [39, 123] || s.toList == [36, 123] || s.toList == [44] || s.toList == [46] || s.toList == [59] || s.toList == [61] || s.toList == [61, 62] || s.toList == [60, 45] ||
  s.toList == [58] || s.toList == [60, 58] || s.toList == [62, 58]
def finKeyM (s : ByteArray) : Bool :=
  s.toList == [102, 97, 108, 115, 101] || s.toList == [110, 117, 108, 108] || s.toList == [114, 101, 116, 117, 114, 110] || s.toList == [115, 117, 112, 101, 114] || s.toList == [116, 104, 105, 115] || s.toList == [116, 114, 117, 101]
def unfM (t : Tok) : Bool := t.kind == 2 || (t.kind == 3 && unfMarkM t.text) || (t.kind == 1 && !finKeyM t.text && keywordM t.text)
def disM (u t : Tok) : Bool :=
  (decide (t.line < u.line) || decide (t.pos < u.pos)) || (t.line == u.line && decide (t.col < u.col)) || (u.kind != 9 && (t.pos == u.pos || t.line == u.line && t.col == u.col))
def Rg.ind (r : Rg) : Bool := r.mark.toList == []
def Rg.brk (r : Rg) : Bool := r.mark.toList != [40] && r.mark.toList != [91]

set_option maxHeartbeats 1600000 in
theorem opener_any (t : Tok) (w : World) (hk : t.kind < 100) :
    Calls Tryd.prog 74 #[tokV t] w fun e w' => e = .returned (.bool (openerM t)) ∧ w' = w.alloc (tokO t) := by
  obtain ⟨kind, text, pos, line, col⟩ := t
  unfold tokV tokO openerM
  dsimp only at hk ⊢
  by_cases h3 : kind = 3
  · subst h3
    go_enter Tryd.func74, Tryd.ntmps74
    go_wp2
    all_goals go_ret
    all_goals exact ⟨ret_bool (by simp_all), rfl⟩
  · by_cases h1 : kind = 1
    · subst h1
      go_enter Tryd.func74, Tryd.ntmps74
      go_wp2
      all_goals go_ret
      all_goals exact ⟨ret_bool (by simp_all), rfl⟩
    · have h3' : ((kind : Int) == 3) = false := by simp; omega
      have h1' : ((kind : Int) == 1) = false := by simp; omega
      have hr : ∀ a b : Bool, ((kind == 3 && a) || (kind == 1 && b)) = false := by simp [h3, h1]
      rw [hr]
      clear h3 h1 hr
      go_enter Tryd.func74, Tryd.ntmps74
      go_wp2
      all_goals go_ret
      all_goals exact ⟨rfl, rfl⟩

set_option maxHeartbeats 400000 in
theorem ind_any (r : Rg) (w : World) :
    Calls Tryd.prog 82 #[rgV r] w fun e w' => e = .returned (.bool r.ind) ∧ w' = w.alloc (rgO r) := by
  obtain ⟨mark, width, index⟩ := r
  unfold rgV rgO Rg.ind
  dsimp only
  go_enter Tryd.func82, Tryd.ntmps82
  go_wp2
  go_ret
  exact ⟨ret_bool (by simp), rfl⟩
set_option maxHeartbeats 400000 in
theorem brk_any (r : Rg) (w : World) :
    Calls Tryd.prog 60 #[rgV r] w fun e w' => e = .returned (.bool r.brk) ∧ w' = w.alloc (rgO r) := by
  obtain ⟨mark, width, index⟩ := r
  unfold rgV rgO Rg.brk
  dsimp only
  by_cases h : mark.toList = [40]
  · have h' : (mark.toList == [40]) = true := by simp [h]
    go_enter Tryd.func60, Tryd.ntmps60
    go_wp2
    go_ret
    exact ⟨ret_bool (by simp only [h]; rfl), rfl⟩
  · have h' : (mark.toList == [40]) = false := by simp [h]
    go_enter Tryd.func60, Tryd.ntmps60
    go_wp2
    go_ret
    exact ⟨ret_bool (by simp only [bne, h']; cases (mark.toList == [91]) <;> rfl), rfl⟩
end Go.Proofs.YtcdidmohgcegmaaDoor
