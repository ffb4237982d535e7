/-
  Where a command is: rlog.Log.Has.
-/
import Derived.Test.YtkdmnhmlkcejfaaRln
namespace Go.Proofs.Ytkdmnhmlkcejfaa
open Go.RowKit
set_option linter.unusedVariables false
set_option linter.unusedSimpArgs false

/-- does an entry hold this command -/
def isK (x : Int) (c : CF) (e : EN) : Bool := e.x == x && sameC e.c c
theorem sameE_self (e : EN) (x : Int) (c : CF) : sameE e.t e.x e.c e.t x c = isK x c e := by simp [sameE, isK]
/-- none of the first j holds this command -/
def NoneYet (es : List EN) (x : Int) (c : CF) (j : Nat) : Prop := ∀ k, k < j → ∀ e, es[k]? = some e → isK x c e = false
theorem noneYet_next {es : List EN} {x : Int} {c : CF} {j : Nat} {e : EN} (h : NoneYet es x c j) (hj : es[j]? = some e) (he : isK x c e = false) : NoneYet es x c (j + 1) := by
  intro k hk f hf
  by_cases hkj : k = j
  · subst hkj
    rw [hj] at hf
    cases hf
    exact he
  · exact h k (by omega) f hf
/-- the first place that holds this command -/
def ixE (x : Int) (c : CF) (es : List EN) : Int := match es.findIdx? (isK x c) with | some i => i | none => -1
theorem ixE_at {es : List EN} {x : Int} {c : CF} {j : Nat} {e : EN} (h : NoneYet es x c j) (hj : es[j]? = some e) (he : isK x c e = true) : ixE x c es = j := by
  unfold ixE
  have hl := (List.getElem?_eq_some_iff.1 hj).1
  have : es.findIdx? (isK x c) = some j := by
    rw [List.findIdx?_eq_some_iff_getElem]
    refine ⟨hl, ?_, fun k hk => ?_⟩
    · rw [(List.getElem?_eq_some_iff.1 hj).2]; exact he
    · have := h k hk es[k] (List.getElem?_eq_getElem (by omega))
      simp [this]
  rw [this]
theorem ixE_none {es : List EN} {x : Int} {c : CF} (h : NoneYet es x c es.length) : ixE x c es = -1 := by
  unfold ixE
  have : es.findIdx? (isK x c) = none := by
    rw [List.findIdx?_eq_none_iff]
    intro e he
    obtain ⟨k, hk, rfl⟩ := List.mem_iff_getElem.1 he
    exact h k hk _ (List.getElem?_eq_getElem hk)
  rw [this]
theorem LogE.elts {w : World} {N g : Nat} {v : Value} {es : List EN} (h : LogE w N g v es) : Elts w EN.cells 7 v es := by
  obtain ⟨a, cap, rfl, h1, h2, h3, h4⟩ := SR.owns h.row
  refine ⟨a, cap, rfl, h1, h2, h4.imp id ?_⟩
  rintro ⟨b, off, rfl, hb, hc⟩
  refine ⟨b, off, rfl, hb, fun j e hj k u hk => ?_⟩
  have hk7 : k < 7 := by
    have := (List.getElem?_eq_some_iff.1 hk).1
    simpa [EN.cells] using this
  have := hc (j * 7 + k) u (enCells_get es j e hj k u hk hk7)
  rwa [← Nat.add_assoc] at this
theorem ixE_le (x : Int) (c : CF) (es : List EN) : -1 ≤ ixE x c es ∧ ixE x c es < es.length := by
  unfold ixE
  rcases h : es.findIdx? (isK x c) with _ | i
  · simp; omega
  · rw [List.findIdx?_eq_some_iff_getElem] at h
    obtain ⟨h1, -⟩ := h
    simp; omega
end Go.Proofs.Ytkdmnhmlkcejfaa
