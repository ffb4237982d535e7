/-
  Arrays of integers and bools as arguments: what the reading gives.
-/
import Derived.Test.YtkdmnhmlkcejfaaDoorRows
import Derived.WalkKit
import Derived.OpenShut
namespace Go.Proofs.YtkdmnhmlkcejfaaDoor
open Go.RowKit
set_option linter.unusedVariables false
variable {H : Type} {enc : TypeId × Value → H} {P : Program} {w : World} {base : Nat} {sp : Nat → Bool} {hd : Bool} {t e : TypeId} {v : Value} {d : DataW H} {p : List MemPlace} {n : Nat}

theorem okWide_array {b0 : Nat} (ht : P.underlying t = some (.array n e)) (h : Value.okWide P w .any b0 t v) : ∃ cs, v = .agg cs ∧ cs.size = P.cellsOf t := by
  simp only [Value.okWide, ht] at h
  obtain ⟨cs, h1, h2, _⟩ := h
  exact ⟨cs, h1, h2⟩

theorem take_one (l : List Value) (i : Nat) (h : i < l.length) : (l.drop i).take 1 = [l[i]] := by
  rw [List.drop_eq_getElem_cons h]; rfl
theorem ints_arr {k : IntKind} {b0 : Nat} (ht : P.underlying t = some (.array n e)) (he : P.underlying e = some (.int k)) (hc : P.cellsOf t = n) (hce : P.cellsOf e = 1)
    (hv : Value.okWide P w .any b0 t v) (h : DataW.Trod enc P w base sp hd t v d p) : ∃ zs : List Int, v = .agg (zs.map (Value.int k)).toArray ∧ zs.length = n ∧ ∀ z ∈ zs, (Lit.int k z).wf = true := by
  obtain ⟨⟨l⟩, rfl, hl⟩ := okWide_array ht hv
  obtain ⟨fuel, hf⟩ := h
  obtain ⟨xs, m, rfl, hx, hcs, hxs, hi⟩ := DataW.trod_array ht hf
  simp only [Value.cells] at hi hl
  rw [hce] at hi
  simp at hl
  have hle : ∀ (i : Nat) (h : i < l.length), ∃ z, l[i] = Value.int k z ∧ (Lit.int k z).wf = true := by
    intro i h
    have hin : i < n := by omega
    have h1 := hi i hin
    rw [Nat.mul_one, take_one l i h, List.getElem?_eq_getElem (by omega)] at h1
    obtain ⟨z, hz, _, hw⟩ := DataW.trod_int he h1
    exact ⟨z, by simpa using hz, hw⟩
  have hall : ∀ l : List Value, (∀ (i : Nat) (h : i < l.length), ∃ z, l[i] = Value.int k z ∧ (Lit.int k z).wf = true) → ∃ zs : List Int, l = zs.map (Value.int k) ∧ ∀ z ∈ zs, (Lit.int k z).wf = true := by
    intro l
    induction l with
    | nil => intro _; exact ⟨[], rfl, by simp⟩
    | cons a r ih =>
      intro hh
      obtain ⟨z, hz, hw⟩ := hh 0 (by simp)
      obtain ⟨zs, hzs, hws⟩ := ih (fun i h => hh (i + 1) (by simpa using h))
      refine ⟨z :: zs, by simp at hz; simp [hz, hzs], ?_⟩
      intro y hy
      rcases List.mem_cons.mp hy with rfl | hy
      · exact hw
      · exact hws y hy
  obtain ⟨zs, hzs, hws⟩ := hall l hle
  subst hzs
  refine ⟨zs, rfl, ?_, hws⟩
  simp at hl
  omega
theorem bools_arr {b0 : Nat} (ht : P.underlying t = some (.array n e)) (he : P.underlying e = some .bool) (hc : P.cellsOf t = n) (hce : P.cellsOf e = 1)
    (hv : Value.okWide P w .any b0 t v) (h : DataW.Trod enc P w base sp hd t v d p) : ∃ zs : List Bool, v = .agg (zs.map Value.bool).toArray ∧ zs.length = n := by
  obtain ⟨⟨l⟩, rfl, hl⟩ := okWide_array ht hv
  obtain ⟨fuel, hf⟩ := h
  obtain ⟨xs, m, rfl, hx, hcs, hxs, hi⟩ := DataW.trod_array ht hf
  simp only [Value.cells] at hi hl
  rw [hce] at hi
  simp at hl
  have hle : ∀ (i : Nat) (h : i < l.length), ∃ z, l[i] = Value.bool z := by
    intro i h
    have hin : i < n := by omega
    have h1 := hi i hin
    rw [Nat.mul_one, take_one l i h, List.getElem?_eq_getElem (by omega)] at h1
    obtain ⟨z, hz, _⟩ := DataW.trod_bool he h1
    exact ⟨z, by simpa using hz⟩
  have hall : ∀ l : List Value, (∀ (i : Nat) (h : i < l.length), ∃ z, l[i] = Value.bool z) → ∃ zs : List Bool, l = zs.map Value.bool := by
    intro l
    induction l with
    | nil => intro _; exact ⟨[], rfl⟩
    | cons a r ih =>
      intro hh
      obtain ⟨z, hz⟩ := hh 0 (by simp)
      obtain ⟨zs, hzs⟩ := ih (fun i h => hh (i + 1) (by simpa using h))
      exact ⟨z :: zs, by simp at hz; simp [hz, hzs]⟩
  obtain ⟨zs, hzs⟩ := hall l hle
  subst hzs
  refine ⟨zs, rfl, ?_⟩
  simp at hl
  omega
end Go.Proofs.YtkdmnhmlkcejfaaDoor
