/-
  NumPuts' walk.
-/
import Derived.Test.YtkdmnhmlkcejfaaDoorNumW
import Derived.Test.YtkdmnhmlkcejfaaDoorNumE
namespace Go.Proofs.YtkdmnhmlkcejfaaDoor
open Go.RowKit
set_option linter.unusedVariables false

theorem bytes_list (s : ByteArray) : s = ⟨s.data.toList.toArray⟩ := by cases s; simp
theorem wf_u64 {n : Int} (h : (Lit.int .u64 n).wf = true) : U64 n := by
  simp [Lit.wf, IntKind.min, IntKind.max, IntKind.signed, IntKind.bits] at h
  exact ⟨by omega, by omega⟩
theorem wf_i64 {n : Int} (h : (Lit.int .i64 n).wf = true) : -9223372036854775808 ≤ n ∧ n ≤ 9223372036854775807 := by
  simp [Lit.wf, IntKind.min, IntKind.max, IntKind.signed, IntKind.bits] at h
  omega
/-- a row that came in, cut to its first k elements -/
theorem RowOf.ints {w : World} {a : Option Addr} {len cap : Nat} {zs : List Int} (h : RowOf .i64 w a len cap zs) (k : Nat) (hk : k ≤ len) :
    ∃ l : List Int, l = zs.take k ∧ l.length = k ∧ (∀ x ∈ l, -9223372036854775808 ≤ x ∧ x ≤ 9223372036854775807) ∧ (k = 0 ∨ ∃ b off, a = some ⟨b, off, none⟩ ∧ b < w.heap.size ∧ ∀ j, j < k → w.cell? ⟨b, off + j, none⟩ = some (.int .i64 (l.getD j 0))) := by
  refine ⟨zs.take k, rfl, ?_, ?_, ?_⟩
  · rcases h with ⟨rfl, rfl, rfl, rfl⟩ | ⟨x, rfl, hl, hm, hz, _⟩
    · obtain rfl : k = 0 := by omega
      rfl
    · rw [List.length_take]; omega
  · intro x hx
    rcases h with ⟨rfl, rfl, rfl, rfl⟩ | ⟨y, rfl, hl, hm, hz, hc, hw⟩
    · simp at hx
    · exact wf_i64 (hw x (List.mem_of_mem_take hx))
  · by_cases h0 : k = 0
    · exact .inl h0
    · right
      rcases h with ⟨rfl, rfl, rfl, rfl⟩ | ⟨⟨b, off, spot⟩, rfl, hl, hm, hz, hc, hw⟩
      · omega
      · have c0 := hc 0 (by omega)
        have hs : spot = none := by
          have := World.cell?_spot c0
          simpa [Addr.add] using this
        subst hs
        have hb : b < w.heap.size := by
          have := World.block_lt_of_cell? w _ c0
          simpa [Addr.add] using this
        refine ⟨b, off, rfl, hb, fun j hj => ?_⟩
        have hcj := hc j (by omega)
        have ha : (⟨b, off, none⟩ : Addr).add j = ⟨b, off + j, none⟩ := by unfold Addr.add; split <;> simp_all
        rw [ha] at hcj
        rw [hcj]
        simp [List.getD, hj]
theorem Ints.below {w w' : World} {v : Value} {zs : List Int} (h : Ints w v zs) (hb : Below w.heap.size w w') : Ints w' v zs := by
  obtain ⟨a, cap, rfl, hm, hc⟩ := h
  refine ⟨a, cap, rfl, hm, hc.imp id ?_⟩
  rintro ⟨b, off, rfl, hlt, hcell⟩
  exact ⟨b, off, rfl, Nat.lt_of_lt_of_le hlt hb.size, fun j hj => by rw [hb.cell hlt]; exact hcell j hj⟩
end Go.Proofs.YtkdmnhmlkcejfaaDoor
