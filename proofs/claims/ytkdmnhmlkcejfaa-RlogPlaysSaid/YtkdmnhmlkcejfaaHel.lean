/-
  A region in whatever order, with a condition on the world that need not hold any more when nothing is left to be done.
-/
import Derived.Test.YtkdmnhmlkcejfaaRgO
namespace Go.Proofs.Ytkdmnhmlkcejfaa
open Go.RowKit
set_option linter.unusedVariables false
set_option linter.unusedSimpArgs false

section
variable {P : Program} {ops : Array Oper} {Q : Exit → Act → World → Prop} {md : Region.Mode} {S : World → Prop}

/-- it waits for all the others -/
def waitsAll (md : Region.Mode) (ops : Array Oper) (j : Nat) : Bool := match ops[j]? with
  | none => false
  | some o => (List.range ops.size).all fun k => k == j || o.after.any fun e => Region.binds md e && e.on == k
/-- whatever comes up next; S holds behind it unless it waited for all -/
def Goes (P : Program) (md : Region.Mode) (ops : Array Oper) (Q : Exit → Act → World → Prop) (S : World → Prop) : Nat → Array Bool → Act → World → Prop
  | 0, l, a, w => Region.ready md ops l = [] ∧ Q .normal a w
  | n + 1, l, a, w => (Region.ready md ops l = [] → Q .normal a w) ∧
      ∀ i ∈ Region.ready md ops l, wpOp P ops Q i (fun a' w' => (waitsAll md ops i = false → S w') ∧ Goes P md ops Q S n (l.setIfInBounds i true) a' w') a w

theorem any_of_goes : ∀ (n : Nat) (l : Array Bool) (a : Act) (w : World), Goes P md ops Q S n l a w → wpAny P md ops Q n l a w := by
  intro n
  induction n with
  | zero => exact fun l a w h => h
  | succ n ih => exact fun l a w h => ⟨h.1, fun i hi => wpOp_mono (fun a' w' hk => ih _ a' w' hk.2) (h.2 i hi)⟩

theorem goes_start {id : Nat} {a : Act} {w : World} (hm : P.follows .mixedOrders = true) (hS : S w.drew)
    (h : S w.drew → Goes P .any ops Q S ops.size (Array.replicate ops.size false) a w.drew) : (Code.region id ops true).wp P Q a w :=
  wp_region_any hm (any_of_goes _ _ _ _ (h hS))

theorem goes_done {l : Array Bool} {a : Act} {w : World} (hr : Region.ready md ops l = []) (h : Q .normal a w) (n : Nat) : Goes P md ops Q S n l a w := by
  cases n with
  | zero => exact ⟨hr, h⟩
  | succ n => exact ⟨fun _ => h, fun i hi => by rw [hr] at hi; cases hi⟩

theorem goes_first {i : Nat} {oi : Oper} {v : Value} (hi : ops[i]? = some oi) (hs : ∀ (j : Nat) (o : Oper) cs b, ops[j]? = some o → o.op ≠ .select cs b)
    (hQ : ∀ c a w, Q (.panic c) (a.put oi.dst v) w → Q (.panic c) a w) (n : Nat) : ∀ (l : Array Bool) (a : Act) (w : World),
      (∀ j oj, ops[j]? = some oj → j ≠ i → l.getD j true = false → (∀ e ∈ oj.after, Region.binds md e = true → e.on ≠ i) → oi.apart ops oj = true) →
      i ∈ Region.ready md ops l → YieldsIf P ops S oi v a → S w →
      Goes P md ops Q S n (l.setIfInBounds i true) (a.put oi.dst v) w → Goes P md ops Q S (n + 1) l a w := by
  induction n with
  | zero =>
    intro l a w hf hr hy hS H
    constructor
    · intro h; rw [h] at hr; cases hr
    · intro j hj
      rcases Classical.em (j = i) with q | q
      · subst q; exact hy.wpOp hi hS ⟨fun _ => hS, H⟩
      · have hm := ready_mono hj q
        rw [H.1] at hm; cases hm
  | succ n ih =>
    intro l a w hf hr hy hS H
    constructor
    · intro h; rw [h] at hr; cases hr
    · intro j hj
      rcases Classical.em (j = i) with q | q
      · subst q; exact hy.wpOp hi hS ⟨fun _ => hS, H⟩
      · have g1 := H.2 j (ready_mono hj q)
        obtain ⟨hl, oj, ho, hall⟩ := mem_ready.1 hj
        have hir := (mem_ready.1 hr).1
        have hno : ∀ e ∈ oj.after, Region.binds md e = true → e.on ≠ i := by
          rintro e he hb rfl
          have h1 := hall e he hb
          by_cases hlt : e.on < l.size
          · simp [hlt] at hir h1; rw [hir] at h1; cases h1
          · simp [Array.getElem?_eq_none (Nat.le_of_not_lt hlt)] at h1
        have g2 := wpOp_putIf ho (hf j oj ho q hl hno) (fun cs b => hs i oi cs b hi) (fun cs b => hs j oj cs b ho) hQ hy g1
        have hri : i ∈ Region.ready md ops (l.setIfInBounds j true) := ready_mono hr (Ne.symm q)
        have hwt : waitsAll md ops j = false := by
          unfold waitsAll
          rw [ho]
          simp only [List.all_eq_false, List.mem_range]
          refine ⟨i, (Array.getElem?_eq_some_iff.1 hi).1, ?_⟩
          simp only [Bool.or_eq_true, beq_iff_eq, Array.any_eq_true', Bool.and_eq_true, not_or, not_exists, not_and]
          exact ⟨Ne.symm q, fun e he hb => hno e he hb⟩
        refine wpOp_mono (fun a' w' g3 => ?_) g2
        obtain ⟨g4, g5, g6⟩ := g3
        have hS' := g5 hwt
        refine ⟨fun _ => hS', ?_⟩
        · refine ih _ a' w' (fun k ok hk hki hun hk2 => hf k ok hk hki ?_ hk2) hri g4 hS' ?_
          · by_cases hjk : j = k
            · subst hjk; exact hl
            · rwa [getD_set_ne true hjk] at hun
          · rw [Array.setIfInBounds_comm _ _ q]; exact g6

theorem goes_take {i : Nat} {oi : Oper} {v : Value} {n : Nat} {l : Array Bool} {a : Act} {w : World} (hi : ops[i]? = some oi)
    (hs : Region.noSelect ops = true) (hf : Region.free md ops l i = true) (hr : (Region.ready md ops l).contains i = true)
    (hQ : ∀ c a w, Q (.panic c) (a.put oi.dst v) w → Q (.panic c) a w) (hy : YieldsIf P ops S oi v a) (hS : S w)
    (h : Goes P md ops Q S n (l.setIfInBounds i true) (a.put oi.dst v) w) : Goes P md ops Q S (n + 1) l a w :=
  goes_first hi (Region.noSelect_spec hs) hQ n l a w (Region.free_spec hi hf) (by simpa using hr) hy hS h

/-- each of these comes up next -/
def GoesEach (P : Program) (md : Region.Mode) (ops : Array Oper) (Q : Exit → Act → World → Prop) (S : World → Prop) (n : Nat) (l : Array Bool) (a : Act) (w : World) (rs : List Nat) : Prop :=
  ∀ i ∈ rs, wpOp P ops Q i (fun a' w' => (waitsAll md ops i = false → S w') ∧ Goes P md ops Q S n (l.setIfInBounds i true) a' w') a w
theorem GoesEach.nil {n : Nat} {l : Array Bool} {a : Act} {w : World} : GoesEach P md ops Q S n l a w [] := fun i hi => nomatch hi
theorem GoesEach.cons {n : Nat} {l : Array Bool} {a : Act} {w : World} {i : Nat} {o : Oper} {rs : List Nat} (ho : ops[i]? = some o)
    (h : ∀ K' : Act → World → Prop, Shut (∀ a w, S w → (S w → Goes P md ops Q S n (l.setIfInBounds i true) a w) → K' a w) → if Region.wanted o (yielded ops a.tmps) = true then Oper.wp P o a w K' Q else K' (a.put o.dst undef) w)
    (hs : GoesEach P md ops Q S n l a w rs) : GoesEach P md ops Q S n l a w (i :: rs) := by
  intro j hj
  rcases List.mem_cons.1 hj with q | q
  · subst q
    exact wpOp_step ho fun K' hK => h K' fun a w hS hW => hK a w ⟨fun _ => hS, hW hS⟩
  · exact hs j q
/-- the one that waited for all: S is not asked behind it -/
theorem GoesEach.last {n : Nat} {l : Array Bool} {a : Act} {w : World} {i : Nat} {o : Oper} (ho : ops[i]? = some o) (hl : waitsAll md ops i = true)
    (h : ∀ K' : Act → World → Prop, Shut (∀ a w, Goes P md ops Q S n (l.setIfInBounds i true) a w → K' a w) → if Region.wanted o (yielded ops a.tmps) = true then Oper.wp P o a w K' Q else K' (a.put o.dst undef) w) : GoesEach P md ops Q S n l a w [i] := by
  intro j hj
  have q := List.mem_singleton.1 hj
  subst q
  exact wpOp_step ho fun K' hK => h K' fun a w hW => hK a w ⟨fun h => Bool.noConfusion (hl.symm.trans h), hW⟩
theorem goes_ready {rs : List Nat} {n : Nat} {l : Array Bool} {a : Act} {w : World} (hr : Region.ready md ops l = rs) (hne : rs ≠ [])
    (h : GoesEach P md ops Q S n l a w rs) : Goes P md ops Q S (n + 1) l a w := by
  subst hr
  exact ⟨fun q => absurd q hne, h⟩
end
end Go.Proofs.Ytkdmnhmlkcejfaa
