/-
  past's uses: those that are writings (slices.DeleteFunc, the walk).
-/
import Derived.Test.YtodjlaapmbnahaaPstG
namespace Go.Proofs.Ytodjlaapmbnahaa
open Go.RowKit
set_option linter.unusedVariables false
set_option linter.unusedSimpArgs false

theorem zc_len (n : Nat) : (Builtin.zeroCells #[Value.bool false, .string ⟨#[]⟩, .int .i64 0, .int .i64 0] n).toList.length = n * 4 := by simp [Builtin.zeroCells]
theorem zc_one (n : Nat) : ∀ v ∈ (Builtin.zeroCells #[Value.bool false, .string ⟨#[]⟩, .int .i64 0, .int .i64 0] n).toList, v.oneCell' = true := by
  intro v hv
  simp only [Builtin.zeroCells, Array.toList_map, List.mem_map] at hv
  obtain ⟨i, -, rfl⟩ := hv
  have : i % 4 < 4 := Nat.mod_lt _ (by decide)
  show (#[Value.bool false, .string ⟨#[]⟩, .int .i64 0, .int .i64 0][i % 4]!).oneCell' = true
  generalize i % 4 = q at this
  match q, this with
  | 0, _ => rfl
  | 1, _ => rfl
  | 2, _ => rfl
  | 3, _ => rfl
/-- clear of the tail -/
theorem InG.clear {g n cap : Nat} {M : List Us} {w : World} (h : InG g n cap M w) (i : Nat) (hi : i < n) : ∃ w', (∀ ty c, (Builtin.clear_ #[40] ty #[.slice (some ⟨g, i * 4, none⟩) (n - i) c]).run Try.prog w = .ok (.tuple #[]) w') ∧ InG g i cap (M.take i) w' ∧ w.grownBy w' (some g) := by
  obtain ⟨cur, h1, h2, h3, h4, h5, h6⟩ := h
  obtain ⟨i0, hi0, hz0, hz1, hz2⟩ := info_parts uinfo
  have hzv : ∀ w, (zeroValue 72).run Try.prog w = .ok (.agg #[.bool false, .string ⟨#[]⟩, .int .i64 0, .int .i64 0]) w := fun w => by
    simp [zeroValue, typeInfo, hi0, hz0]
  have hle : n * 4 ≤ cur.size := by rw [h2]; exact Nat.mul_le_mul_right _ h5
  refine ⟨_, fun ty c => run_clear_own (P := Try.prog) w 40 72 ty _ Try.underlying40 hzv g (i * 4) (n - i) c (by omega) 72 cur h1 _ rfl (by rw [show (Value.agg #[.bool false, .string ⟨#[]⟩, .int .i64 0, .int .i64 0]).cells = #[Value.bool false, .string ⟨#[]⟩, .int .i64 0, .int .i64 0] from rfl, zc_len]; omega) (zc_one _), ?_, ?_⟩
  · refine ⟨_, setRow_heap w g cur _ _ _ h1, ?_, ?_, ?_, by omega, h6⟩
    · rw [List.size_toArray, List.length_append, List.length_append, show (Value.agg #[.bool false, .string ⟨#[]⟩, .int .i64 0, .int .i64 0]).cells = #[Value.bool false, .string ⟨#[]⟩, .int .i64 0, .int .i64 0] from rfl, zc_len, List.length_take, List.length_drop]
      simp only [Array.length_toList]
      omega
    · show List.take (i * 4) (_ ++ _ ++ _) = _
      rw [List.append_assoc, List.take_left' (by simp; omega)]
      have e1 : cur.toList.take (i * 4) = (cur.toList.take (n * 4)).take (i * 4) := by rw [List.take_take, Nat.min_eq_left (by omega)]
      rw [e1, h3]
      have e2 : uC M = uC (M.take i) ++ uC (M.drop i) := by rw [← uC_app, List.take_append_drop]
      rw [e2, List.take_left' (by rw [uC_len, List.length_take]; rw [Nat.min_eq_left (by omega)])]
    · rw [List.length_take]; omega
  · exact grown_setRow (World.grownBy.refl w _) (.inl rfl) _
def PDelP (M : List Us) (v : Value) (w : World) (e : Ending) (w' : World) : Prop := ∃ v', e = .returned v' ∧ Elts w' Us.c 4 v' (M.filter (fun u => u.wr)) ∧ (∀ g, v'.ownBlock = some g → ∃ A fr, w'.heap[g]? = some (.cells A 72 fr)) ∧ w.grownBy w' v.ownBlock
end Go.Proofs.Ytodjlaapmbnahaa
