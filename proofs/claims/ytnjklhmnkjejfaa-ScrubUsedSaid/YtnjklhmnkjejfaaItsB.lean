/-
  ItemsPlay's walk.
-/
import Derived.Test.YtnjklhmnkjejfaaItsA
namespace Go.Proofs.Ytnjklhmnkjejfaa
open Go.RowKit
set_option linter.unusedVariables false
set_option linter.unusedSimpArgs false

abbrev actSh : Sh := .two (.int .i64) (.two (.int .i64) (.two (.two (.int .u64) (.two .str .unit)) .unit))
/-- the cells of an act that came in -/
theorem act_cells {w : World} {b off j : Nat} (h : ∃ ys, ys.length = actSh.size ∧ (∀ (k : Nat) u, ys[k]? = some u → w.cell? ⟨b, off + j * actSh.size + k, none⟩ = some u) ∧ Fits w actSh ys) :
    ∃ tw tb tv td, w.cell? ⟨b, off + j * 4, none⟩ = some (.int .i64 tw) ∧ w.cell? ⟨b, off + j * 4 + 1, none⟩ = some (.int .i64 tb) ∧ w.cell? ⟨b, off + j * 4 + 2, none⟩ = some (.int .u64 tv) ∧ w.cell? ⟨b, off + j * 4 + 3, none⟩ = some (.string td) ∧ td.size ≤ maxLen := by
  obtain ⟨ys, hl, hc, x0, y0, rfl, ⟨tw, rfl, -⟩, x1, y1, rfl, ⟨tb, rfl, -⟩, x2, y2, rfl, ⟨x3, y3, rfl, ⟨tv, rfl, -⟩, x4, y4, rfl, ⟨td, rfl, hd⟩, rfl⟩, rfl⟩ := h
  exact ⟨tw, tb, tv, td, hc 0 _ rfl, hc 1 _ rfl, hc 2 _ rfl, hc 3 _ rfl, hd⟩
theorem put_len {m : Bool} {l : List HI} {x : HI} : (putL m l x).length ≤ l.length + 1 := by
  unfold putL
  split
  · induction l with
    | nil => simp [layL]
    | cons h t ih =>
      unfold layL
      split
      · simpa using ih
      · split
        · split <;> simp
        · simp
  · omega
theorem item_neq (x : Int) (s : ByteArray) (w : World) (hx : (Lit.int .u64 x).wf = true) (hs : s.size ≤ maxLen) :
    (binOp .neq 24 (.agg #[.int .u64 x, .string s]) (.agg #[.int .u64 x, .string s])).run Try.prog w = .ok (.bool false) w :=
  (eq_deep (m := 4) (D := 4) (D' := 4) itemkey (by decide) (item_formed x s) (item_formed x s) (item_lits x s hx hs) (item_lits x s hx hs) true (by simp) w).2
theorem get_wf {l : List HI} (h : Srt l) (b : Int) : (Lit.int .u64 (gv (getL l b))).wf = true ∧ (gd (getL l b)).size ≤ maxLen := by
  cases hg : getL l b with
  | none => exact ⟨by decide, by decide⟩
  | some x =>
    have hm : x ∈ l := List.mem_of_find?_eq_some hg
    obtain ⟨-, h2, h3⟩ := good_wf (h.all x hm)
    exact ⟨h2, h3⟩
end Go.Proofs.Ytnjklhmnkjejfaa
