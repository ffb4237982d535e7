/-
  A slice of structs that came in, read element by element. Of no program.
-/
import Derived.Test.YtodjlaapmbnahaaFits
import Derived.Test.YtodjlaapmbnahaaSR
namespace Go.Proofs.Ytodjlaapmbnahaa
open Go.RowKit
set_option linter.unusedVariables false

/-- the slice v has the elements rs, of sz cells each -/
def Elts {α : Type} (w : World) (c : α → List Value) (sz : Nat) (v : Value) (rs : List α) : Prop :=
  ∃ a cap, v = .slice a rs.length cap ∧ rs.length ≤ cap ∧ cap ≤ maxLen ∧ (rs.length = 0 ∨ ∃ b off, a = some ⟨b, off, none⟩ ∧ b < w.heap.size ∧
    ∀ (j : Nat) x, rs[j]? = some x → ∀ (k : Nat) u, (c x)[k]? = some u → w.cell? ⟨b, off + j * sz + k, none⟩ = some u)
theorem Elts.below {α : Type} {w w' : World} {c : α → List Value} {sz : Nat} {v : Value} {rs : List α} (h : Elts w c sz v rs) (hb : Below w.heap.size w w') : Elts w' c sz v rs := by
  obtain ⟨a, cap, rfl, h1, h2, h3⟩ := h
  refine ⟨a, cap, rfl, h1, h2, h3.imp id ?_⟩
  rintro ⟨b, off, rfl, hlt, hc⟩
  exact ⟨b, off, rfl, Nat.lt_of_lt_of_le hlt hb.size, fun j x hj k u hk => (hb.cell (p := ⟨b, off + j * sz + k, none⟩) hlt).trans (hc j x hj k u hk)⟩
theorem Elts.at_ {α : Type} {w : World} {c : α → List Value} {sz : Nat} {a : Option Addr} {len cap : Nat} {rs : List α} (h : Elts w c sz (.slice a len cap) rs) {j : Nat} {x : α} (hj : rs[j]? = some x) :
    len = rs.length ∧ ∃ b off, a = some ⟨b, off, none⟩ ∧ b < w.heap.size ∧ ∀ (k : Nat) u, (c x)[k]? = some u → w.cell? ⟨b, off + j * sz + k, none⟩ = some u := by
  obtain ⟨a', cap', he, h1, h2, h3⟩ := h
  injection he with e1 e2 e3
  subst e1 e2 e3
  have := (List.getElem?_eq_some_iff.1 hj).1
  obtain ⟨b, off, rfl, hlt, hc⟩ := h3.resolve_left (by omega)
  exact ⟨rfl, b, off, rfl, hlt, hc j x hj⟩
theorem fits_rows {α : Type} {w : World} {s : Sh} {c : α → List Value} {good : α → Prop} (one : ∀ ys, Fits w s ys → ∃ x, ys = c x ∧ good x)
    {a : Option Addr} {len cap : Nat} (h : Fits w (.slice s) [.slice a len cap]) : ∃ rs : List α, rs.length = len ∧ Elts w c s.size (.slice a len cap) rs ∧ ∀ x ∈ rs, good x := by
  obtain ⟨hlc, hcm, hel⟩ := h.slice
  rcases Nat.eq_zero_or_pos len with h0 | h0
  · subst h0
    exact ⟨[], rfl, ⟨a, cap, rfl, hlc, hcm, .inl rfl⟩, by simp⟩
  · obtain ⟨b, off, rfl, hb, hi⟩ := hel.resolve_left (by omega)
    have hx : ∀ i, i < len → ∃ x : α, good x ∧ ∀ (k : Nat) u, (c x)[k]? = some u → w.cell? ⟨b, off + i * s.size + k, none⟩ = some u := fun i hlt => by
      obtain ⟨ys, _, hc, hf⟩ := hi i hlt
      obtain ⟨x, rfl, hr⟩ := one ys hf
      exact ⟨x, hr, hc⟩
    have hrs : ∀ n, n ≤ len → ∃ rs : List α, rs.length = n ∧ (∀ x ∈ rs, good x) ∧ ∀ (i : Nat) x, rs[i]? = some x → ∀ (k : Nat) u, (c x)[k]? = some u → w.cell? ⟨b, off + i * s.size + k, none⟩ = some u := by
      intro n
      induction n with
      | zero => exact fun _ => ⟨[], rfl, by simp, fun i x e => by simp at e⟩
      | succ n ih =>
        intro hn
        obtain ⟨rs, h1, h2, h3⟩ := ih (by omega)
        obtain ⟨x, hr, hc⟩ := hx n (by omega)
        refine ⟨rs ++ [x], by simp [h1], fun y hy => ?_, fun i y e => ?_⟩
        · rcases List.mem_append.1 hy with q | q
          · exact h2 y q
          · rw [List.mem_singleton.1 q]; exact hr
        · rcases Nat.lt_trichotomy i n with q | q | q
          · rw [List.getElem?_append_left (by omega)] at e
            exact h3 i y e
          · subst q
            rw [List.getElem?_append_right (by omega), h1, Nat.sub_self] at e
            simp only [List.getElem?_cons_zero, Option.some.injEq] at e
            subst e
            exact hc
          · have := (List.getElem?_eq_some_iff.1 e).1
            simp [h1] at this
            omega
    obtain ⟨rs, h1, h2, h3⟩ := hrs len (Nat.le_refl _)
    subst h1
    exact ⟨rs, rfl, ⟨_, cap, rfl, hlc, hcm, .inr ⟨b, off, rfl, hb, h3⟩⟩, h2⟩
end Go.Proofs.Ytodjlaapmbnahaa
