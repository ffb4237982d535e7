/-
  tarnref01.R: Num.
-/
import Derived.Test.YtkdmnhmlkcejfaaDoorRefC
namespace Go.Proofs.YtkdmnhmlkcejfaaDoor
open Go.RowKit
set_option linter.unusedVariables false
set_option linter.unusedSimpArgs false

theorem r_end {w wx : World} {B : Nat} {x : Value} {y : Value} {t : TypeId} (h : wx.heap[B]? = some (.cells #[x, y] t)) (hb : Below w.heap.size w wx) (hB : w.heap.size ≤ B) (F : RS) :
    ((wx.setCell ⟨B, 0, none⟩ (.string ⟨F.s.toArray⟩)).setCell ⟨B, 1, none⟩ (.int .i64 F.e)).cell? ⟨B, 0, none⟩ = some (.string ⟨F.s.toArray⟩) ∧ ((wx.setCell ⟨B, 0, none⟩ (.string ⟨F.s.toArray⟩)).setCell ⟨B, 1, none⟩ (.int .i64 F.e)).cell? ⟨B, 1, none⟩ = some (.int .i64 F.e) ∧ Below w.heap.size w ((wx.setCell ⟨B, 0, none⟩ (.string ⟨F.s.toArray⟩)).setCell ⟨B, 1, none⟩ (.int .i64 F.e)) ∧ ((wx.setCell ⟨B, 0, none⟩ (.string ⟨F.s.toArray⟩)).setCell ⟨B, 1, none⟩ (.int .i64 F.e)).heap[B]? = some (.cells #[.string ⟨F.s.toArray⟩, .int .i64 F.e] t) := by
  have hs := set_two (u := .string ⟨F.s.toArray⟩) (v := .int .i64 F.e) h
  exact ⟨cell_at hs 0 rfl, cell_at hs 1 rfl, (hb.setCell (p := ⟨B, 0, none⟩) hB (.string ⟨F.s.toArray⟩)).setCell (p := ⟨B, 1, none⟩) hB (.int .i64 F.e), hs⟩
theorem r_frz {w : World} {B : Nat} {A : Array Value} {t : TypeId} (h : w.heap[B]? = some (.cells A t)) (i : Nat) : w.frozen? ⟨B, i, none⟩ = false := by simp [World.frozen?, h]
theorem takeB_nil {r : RS} {n : Int} (h : (r.takeS n).e ≠ 0) : r.takeB n = [] := by
  unfold RS.takeS at h
  unfold RS.takeB
  by_cases he : r.e = 0
  · rw [if_neg (by simpa using he)] at h ⊢
    by_cases hb : n < 0 ∨ (r.s.length : Int) < n
    · rw [if_pos hb]
    · rw [if_neg hb] at h
      exact absurd he h
  · rw [if_pos he]
theorem takeS_len (r : RS) (n : Int) : (r.takeS n).s.length ≤ r.s.length := by
  unfold RS.takeS RS.fail
  repeat' split
  all_goals simp
end Go.Proofs.YtkdmnhmlkcejfaaDoor
