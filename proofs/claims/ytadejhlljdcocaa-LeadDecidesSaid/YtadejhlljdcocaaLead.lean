/-
  What a leader knows of others, in memory: New, Next, Match, Yes, No.
-/
import Derived.Test.YtadejhlljdcocaaHeld
namespace Go.Proofs.Ytadejhlljdcocaa
open Go.RowKit
set_option linter.unusedVariables false
set_option linter.unusedSimpArgs false

def updL (f : Nat → Int) (k : Nat) (v : Int) : Nat → Int := fun i => if i = k then v else f i
def leadA (M X : Nat → Int) : Array Value := #[.int .i64 (M 0), .int .i64 (M 1), .int .i64 (M 2), .int .i64 (X 0), .int .i64 (X 1), .int .i64 (X 2)]
def LeadAt (w : World) (a : Nat) (M X : Nat → Int) : Prop := w.heap[a]? = some (.cells (leadA M X) 141)
theorem LeadAt.cells {w : World} {a : Nat} {M X : Nat → Int} (h : LeadAt w a M X) :
    (w.cell? ⟨a, 0, none⟩ = some (.int .i64 (M 0)) ∧ w.cell? ⟨a, 1, none⟩ = some (.int .i64 (M 1)) ∧ w.cell? ⟨a, 2, none⟩ = some (.int .i64 (M 2)) ∧
    w.cell? ⟨a, 3, none⟩ = some (.int .i64 (X 0)) ∧ w.cell? ⟨a, 4, none⟩ = some (.int .i64 (X 1)) ∧ w.cell? ⟨a, 5, none⟩ = some (.int .i64 (X 2))) ∧ ∀ i, w.frozen? ⟨a, i, none⟩ = false := by
  unfold LeadAt leadA at h
  exact ⟨⟨by simp [World.cell?, h], by simp [World.cell?, h], by simp [World.cell?, h], by simp [World.cell?, h], by simp [World.cell?, h], by simp [World.cell?, h]⟩, fun i => by simp [World.frozen?, h]⟩
theorem LeadAt.below {w w' : World} {a : Nat} {M X : Nat → Int} (h : LeadAt w a M X) (hb : Below w.heap.size w w') : LeadAt w' a M X := below_at hb (lt_heap h) h
theorem LeadAt.drewN {w : World} {a : Nat} {M X : Nat → Int} (h : LeadAt w a M X) (q : Nat) : LeadAt (w.drewN q) a M X := h
theorem LeadAt.drew {w : World} {a : Nat} {M X : Nat → Int} (h : LeadAt w a M X) : LeadAt w.drew a M X := h
theorem LeadAt.setM {w : World} {a : Nat} {M X : Nat → Int} (h : LeadAt w a M X) (k : Nat) (hk : k < 3) (v : Int) : LeadAt (w.setCell ⟨a, k, none⟩ (.int .i64 v)) a (updL M k v) X := by
  refine (heap_setCell_same _ _ _ _ _ _ h).trans ?_
  match k, hk with
  | 0, _ => rfl
  | 1, _ => rfl
  | 2, _ => rfl
theorem LeadAt.setX {w : World} {a : Nat} {M X : Nat → Int} (h : LeadAt w a M X) (k : Nat) (hk : k < 3) (v : Int) : LeadAt (w.setCell ⟨a, 3 + k, none⟩ (.int .i64 v)) a M (updL X k v) := by
  refine (heap_setCell_same _ _ _ _ _ _ h).trans ?_
  match k, hk with
  | 0, _ => rfl
  | 1, _ => rfl
  | 2, _ => rfl
/-- only block a may have turned -/
def OnlyA (a : Nat) (w w' : World) : Prop := w.heap.size ≤ w'.heap.size ∧ Below a w w' ∧ ∀ j, j < w.heap.size → j ≠ a → w'.heap[j]? = w.heap[j]?
theorem lhas_out (a : Nat) (who : Int) (w : World) (h : who < 0 ∨ 3 ≤ who) : Calls Try.prog 81 #[.pointer (some ⟨a, 0, none⟩), .int .i64 who] w fun e w' => e = .returned (.bool false) ∧ w = w' := by
  rcases h with h | h
  · have h2 : ¬ 0 ≤ who := by omega
    go_enter Try.func81, Try.ntmps81
    go_wp2_with fail
    go_ret
    exact ⟨rfl, rfl⟩
  · have h2 : ¬ who < 3 := by omega
    have h3 : 0 ≤ who := by omega
    go_enter Try.func81, Try.ntmps81
    go_wp2_with fail
    go_ret
    exact ⟨rfl, rfl⟩
theorem lhas_in (a : Nat) (who : Int) (w : World) (h : 0 ≤ who) (h2 : who < 3) : Calls Try.prog 81 #[.pointer (some ⟨a, 0, none⟩), .int .i64 who] w fun e w' => e = .returned (.bool true) ∧ w = w' := by
  go_enter Try.func81, Try.ntmps81
  go_wp2_with fail
  go_ret
  exact ⟨rfl, rfl⟩
theorem lhas_nil (who : Int) (w : World) : Calls Try.prog 81 #[.pointer none, .int .i64 who] w fun e w' => e = .returned (.bool false) ∧ w = w' := by
  go_enter Try.func81, Try.ntmps81
  go_wp2_with fail
  go_ret
  exact ⟨rfl, rfl⟩
theorem who3 {who : Int} (h : 0 ≤ who) (h2 : who < 3) : who = 0 ∨ who = 1 ∨ who = 2 := by omega
theorem lmatch_0 (a : Nat) (w : World) (M X : Nat → Int) (h : LeadAt w a M X) : Calls Try.prog 25 #[.pointer (some ⟨a, 0, none⟩), .int .i64 0] w fun e w' => e = .returned (.int .i64 (M 0)) ∧ w = w' := by
  obtain ⟨⟨c0, c1, c2, c3, c4, c5⟩, -⟩ := h.cells
  have ch := lhas_in a 0 w (by decide) (by decide)
  go_enter Try.func25, Try.ntmps25
  go_wp2_with fail
  refine Calls.mono ch ?_
  rintro e w1 ⟨rfl, rfl⟩
  go_wp2_with fail
  go_ret
  exact ⟨rfl, rfl⟩
theorem lmatch_1 (a : Nat) (w : World) (M X : Nat → Int) (h : LeadAt w a M X) : Calls Try.prog 25 #[.pointer (some ⟨a, 0, none⟩), .int .i64 1] w fun e w' => e = .returned (.int .i64 (M 1)) ∧ w = w' := by
  obtain ⟨⟨c0, c1, c2, c3, c4, c5⟩, -⟩ := h.cells
  have ch := lhas_in a 1 w (by decide) (by decide)
  go_enter Try.func25, Try.ntmps25
  go_wp2_with fail
  refine Calls.mono ch ?_
  rintro e w1 ⟨rfl, rfl⟩
  go_wp2_with fail
  go_ret
  exact ⟨rfl, rfl⟩
theorem lmatch_2 (a : Nat) (w : World) (M X : Nat → Int) (h : LeadAt w a M X) : Calls Try.prog 25 #[.pointer (some ⟨a, 0, none⟩), .int .i64 2] w fun e w' => e = .returned (.int .i64 (M 2)) ∧ w = w' := by
  obtain ⟨⟨c0, c1, c2, c3, c4, c5⟩, -⟩ := h.cells
  have ch := lhas_in a 2 w (by decide) (by decide)
  go_enter Try.func25, Try.ntmps25
  go_wp2_with fail
  refine Calls.mono ch ?_
  rintro e w1 ⟨rfl, rfl⟩
  go_wp2_with fail
  go_ret
  exact ⟨rfl, rfl⟩
theorem lmatch_in (k : Nat) (hk : k < 3) (a : Nat) (w : World) (M X : Nat → Int) (h : LeadAt w a M X) : Calls Try.prog 25 #[.pointer (some ⟨a, 0, none⟩), .int .i64 k] w fun e w' => e = .returned (.int .i64 (M k)) ∧ w = w' := by
  match k, hk with
  | 0, _ => exact lmatch_0 a w M X h
  | 1, _ => exact lmatch_1 a w M X h
  | 2, _ => exact lmatch_2 a w M X h
theorem lmatch_out (who : Int) (h : who < 0 ∨ 3 ≤ who) (a : Nat) (w : World) : Calls Try.prog 25 #[.pointer (some ⟨a, 0, none⟩), .int .i64 who] w fun e w' => e = .returned (.int .i64 0) ∧ w = w' := by
  have ch := lhas_out a who w h
  go_enter Try.func25, Try.ntmps25
  go_wp2_with fail
  refine Calls.mono ch ?_
  rintro e w1 ⟨rfl, rfl⟩
  go_wp2_with fail
  go_ret
  exact ⟨rfl, rfl⟩
theorem lmatch_nil (who : Int) (w : World) : Calls Try.prog 25 #[.pointer none, .int .i64 who] w fun e w' => e = .returned (.int .i64 0) ∧ w = w' := by
  go_enter Try.func25, Try.ntmps25
  go_wp2_with fail
  refine Calls.mono (lhas_nil who _) ?_
  rintro e w1 ⟨rfl, rfl⟩
  go_wp2_with fail
  go_ret
  exact ⟨rfl, rfl⟩
theorem lnext_0 (a : Nat) (w : World) (M X : Nat → Int) (h : LeadAt w a M X) : Calls Try.prog 26 #[.pointer (some ⟨a, 0, none⟩), .int .i64 0] w fun e w' => e = .returned (.int .i64 (X 0)) ∧ w = w' := by
  obtain ⟨⟨c0, c1, c2, c3, c4, c5⟩, -⟩ := h.cells
  have ch := lhas_in a 0 w (by decide) (by decide)
  go_enter Try.func26, Try.ntmps26
  go_wp2_with fail
  refine Calls.mono ch ?_
  rintro e w1 ⟨rfl, rfl⟩
  go_wp2_with fail
  go_ret
  exact ⟨rfl, rfl⟩
theorem lnext_1 (a : Nat) (w : World) (M X : Nat → Int) (h : LeadAt w a M X) : Calls Try.prog 26 #[.pointer (some ⟨a, 0, none⟩), .int .i64 1] w fun e w' => e = .returned (.int .i64 (X 1)) ∧ w = w' := by
  obtain ⟨⟨c0, c1, c2, c3, c4, c5⟩, -⟩ := h.cells
  have ch := lhas_in a 1 w (by decide) (by decide)
  go_enter Try.func26, Try.ntmps26
  go_wp2_with fail
  refine Calls.mono ch ?_
  rintro e w1 ⟨rfl, rfl⟩
  go_wp2_with fail
  go_ret
  exact ⟨rfl, rfl⟩
theorem lnext_2 (a : Nat) (w : World) (M X : Nat → Int) (h : LeadAt w a M X) : Calls Try.prog 26 #[.pointer (some ⟨a, 0, none⟩), .int .i64 2] w fun e w' => e = .returned (.int .i64 (X 2)) ∧ w = w' := by
  obtain ⟨⟨c0, c1, c2, c3, c4, c5⟩, -⟩ := h.cells
  have ch := lhas_in a 2 w (by decide) (by decide)
  go_enter Try.func26, Try.ntmps26
  go_wp2_with fail
  refine Calls.mono ch ?_
  rintro e w1 ⟨rfl, rfl⟩
  go_wp2_with fail
  go_ret
  exact ⟨rfl, rfl⟩
theorem lnext_in (k : Nat) (hk : k < 3) (a : Nat) (w : World) (M X : Nat → Int) (h : LeadAt w a M X) : Calls Try.prog 26 #[.pointer (some ⟨a, 0, none⟩), .int .i64 k] w fun e w' => e = .returned (.int .i64 (X k)) ∧ w = w' := by
  match k, hk with
  | 0, _ => exact lnext_0 a w M X h
  | 1, _ => exact lnext_1 a w M X h
  | 2, _ => exact lnext_2 a w M X h
theorem lnext_out (who : Int) (h : who < 0 ∨ 3 ≤ who) (a : Nat) (w : World) : Calls Try.prog 26 #[.pointer (some ⟨a, 0, none⟩), .int .i64 who] w fun e w' => e = .returned (.int .i64 0) ∧ w = w' := by
  have ch := lhas_out a who w h
  go_enter Try.func26, Try.ntmps26
  go_wp2_with fail
  refine Calls.mono ch ?_
  rintro e w1 ⟨rfl, rfl⟩
  go_wp2_with fail
  go_ret
  exact ⟨rfl, rfl⟩
theorem lnext_nil (who : Int) (w : World) : Calls Try.prog 26 #[.pointer none, .int .i64 who] w fun e w' => e = .returned (.int .i64 0) ∧ w = w' := by
  go_enter Try.func26, Try.ntmps26
  go_wp2_with fail
  refine Calls.mono (lhas_nil who _) ?_
  rintro e w1 ⟨rfl, rfl⟩
  go_wp2_with fail
  go_ret
  exact ⟨rfl, rfl⟩
theorem OnlyA.refl (a : Nat) (w : World) : OnlyA a w w := ⟨Nat.le_refl _, Below.refl _ _, fun _ _ _ => rfl⟩
theorem OnlyA.set {a : Nat} {w w' : World} (h : OnlyA a w w') (o : Nat) (v : Value) : OnlyA a w (w'.setCell ⟨a, o, none⟩ v) :=
  ⟨by simpa [World.setCell] using h.1, h.2.1.setCell (p := ⟨a, o, none⟩) (Nat.le_refl _) _, fun j hj hja => (heap_setCell_other _ _ _ _ hja).trans (h.2.2 j hj hja)⟩
theorem OnlyA.drew {a : Nat} {w w' : World} (h : OnlyA a w w') : OnlyA a w w'.drew := ⟨h.1, below_drew' h.2.1, h.2.2⟩
def maxI (a b : Int) : Int := if a < b then b else a
def yesM (M : Nat → Int) (k : Nat) (at_ : Int) : Nat → Int := if at_ ≤ M k then M else updL M k at_
def yesX (M X : Nat → Int) (k : Nat) (at_ : Int) : Nat → Int := if at_ ≤ M k then X else updL X k (maxI (X k) (at_ + 1))
def noX (M X : Nat → Int) (k : Nat) : Nat → Int := updL X k (maxI (X k - 1) (M k + 1))
def YesPost (a : Nat) (M X : Nat → Int) (w : World) (e : Ending) (w' : World) : Prop := e = .returned (.tuple #[]) ∧ LeadAt w' a M X ∧ OnlyA a w w'
set_option maxHeartbeats 800000 in
theorem lyes_0 (at_ : Int) (a : Nat) (w : World) (M X : Nat → Int) (h : LeadAt w a M X) (h0 : 0 ≤ at_) (h1 : at_ ≤ 1000000) (hX : -1000000 ≤ X 0 ∧ X 0 ≤ 1000000) :
    Calls Try.prog 24 #[.pointer (some ⟨a, 0, none⟩), .int .i64 0, .int .i64 at_] w (YesPost a (yesM M 0 at_) (yesX M X 0 at_) w) := by
  obtain ⟨⟨c0, c1, c2, c3, c4, c5⟩, hf⟩ := h.cells
  have f1 := hf 0
  have f2 := hf 3
  have ch := lhas_in a 0 w (by decide) (by decide)
  have HH := Lib.hid h
  unfold yesM yesX
  obtain ⟨x1, x2⟩ := hX
  clear h hf
  by_cases hle : at_ ≤ M 0
  · rw [if_pos hle, if_pos hle]
    go_enter Try.func24, Try.ntmps24
    go_wp2_with fail
    refine Calls.mono ch ?_
    rintro e w1 ⟨rfl, rfl⟩
    go_wp2_with fail
    go_returns
    exact ⟨rfl, HH.out, OnlyA.refl _ _⟩
  · rw [if_neg hle, if_neg hle]
    have HM := Lib.hid ((HH.out.setM 0 (by decide) at_).setX 0 (by decide) (maxI (X 0) (at_ + 1))).drew
    have HO := Lib.hid ((((OnlyA.refl a w).set 0 (.int .i64 at_))).set 3 (.int .i64 (maxI (X 0) (at_ + 1)))).drew
    go_enter Try.func24, Try.ntmps24
    go_wp2_with fail
    refine Calls.mono ch ?_
    rintro e w1 ⟨rfl, rfl⟩
    go_wp2_with fail
    go_region
    go_end0
    exact ⟨rfl, HM.out, HO.out⟩
set_option maxHeartbeats 800000 in
theorem lno_0 (a : Nat) (w : World) (M X : Nat → Int) (h : LeadAt w a M X) (hM : -1000000 ≤ M 0 ∧ M 0 ≤ 1000000) (hX : -1000000 ≤ X 0 ∧ X 0 ≤ 1000000) :
    Calls Try.prog 23 #[.pointer (some ⟨a, 0, none⟩), .int .i64 0] w (YesPost a M (noX M X 0) w) := by
  obtain ⟨⟨c0, c1, c2, c3, c4, c5⟩, hf⟩ := h.cells
  have f2 := hf 3
  have ch := lhas_in a 0 w (by decide) (by decide)
  have HH := Lib.hid h
  unfold noX
  obtain ⟨x1, x2⟩ := hX
  obtain ⟨x3, x4⟩ := hM
  clear h hf
  have HM := Lib.hid (HH.out.setX 0 (by decide) (maxI (X 0 - 1) (M 0 + 1))).drew
  have HO := Lib.hid (((OnlyA.refl a w)).set 3 (.int .i64 (maxI (X 0 - 1) (M 0 + 1)))).drew
  go_enter Try.func23, Try.ntmps23
  go_wp2_with fail
  refine Calls.mono ch ?_
  rintro e w1 ⟨rfl, rfl⟩
  go_wp2_with fail
  go_region
  go_end0
  exact ⟨rfl, HM.out, HO.out⟩
set_option maxHeartbeats 800000 in
theorem lyes_1 (at_ : Int) (a : Nat) (w : World) (M X : Nat → Int) (h : LeadAt w a M X) (h0 : 0 ≤ at_) (h1 : at_ ≤ 1000000) (hX : -1000000 ≤ X 1 ∧ X 1 ≤ 1000000) :
    Calls Try.prog 24 #[.pointer (some ⟨a, 0, none⟩), .int .i64 1, .int .i64 at_] w (YesPost a (yesM M 1 at_) (yesX M X 1 at_) w) := by
  obtain ⟨⟨c0, c1, c2, c3, c4, c5⟩, hf⟩ := h.cells
  have f1 := hf 1
  have f2 := hf 4
  have ch := lhas_in a 1 w (by decide) (by decide)
  have HH := Lib.hid h
  unfold yesM yesX
  obtain ⟨x1, x2⟩ := hX
  clear h hf
  by_cases hle : at_ ≤ M 1
  · rw [if_pos hle, if_pos hle]
    go_enter Try.func24, Try.ntmps24
    go_wp2_with fail
    refine Calls.mono ch ?_
    rintro e w1 ⟨rfl, rfl⟩
    go_wp2_with fail
    go_returns
    exact ⟨rfl, HH.out, OnlyA.refl _ _⟩
  · rw [if_neg hle, if_neg hle]
    have HM := Lib.hid ((HH.out.setM 1 (by decide) at_).setX 1 (by decide) (maxI (X 1) (at_ + 1))).drew
    have HO := Lib.hid ((((OnlyA.refl a w).set 1 (.int .i64 at_))).set 4 (.int .i64 (maxI (X 1) (at_ + 1)))).drew
    go_enter Try.func24, Try.ntmps24
    go_wp2_with fail
    refine Calls.mono ch ?_
    rintro e w1 ⟨rfl, rfl⟩
    go_wp2_with fail
    go_region
    go_end0
    exact ⟨rfl, HM.out, HO.out⟩
set_option maxHeartbeats 800000 in
theorem lno_1 (a : Nat) (w : World) (M X : Nat → Int) (h : LeadAt w a M X) (hM : -1000000 ≤ M 1 ∧ M 1 ≤ 1000000) (hX : -1000000 ≤ X 1 ∧ X 1 ≤ 1000000) :
    Calls Try.prog 23 #[.pointer (some ⟨a, 0, none⟩), .int .i64 1] w (YesPost a M (noX M X 1) w) := by
  obtain ⟨⟨c0, c1, c2, c3, c4, c5⟩, hf⟩ := h.cells
  have f2 := hf 4
  have ch := lhas_in a 1 w (by decide) (by decide)
  have HH := Lib.hid h
  unfold noX
  obtain ⟨x1, x2⟩ := hX
  obtain ⟨x3, x4⟩ := hM
  clear h hf
  have HM := Lib.hid (HH.out.setX 1 (by decide) (maxI (X 1 - 1) (M 1 + 1))).drew
  have HO := Lib.hid (((OnlyA.refl a w)).set 4 (.int .i64 (maxI (X 1 - 1) (M 1 + 1)))).drew
  go_enter Try.func23, Try.ntmps23
  go_wp2_with fail
  refine Calls.mono ch ?_
  rintro e w1 ⟨rfl, rfl⟩
  go_wp2_with fail
  go_region
  go_end0
  exact ⟨rfl, HM.out, HO.out⟩
set_option maxHeartbeats 800000 in
theorem lyes_2 (at_ : Int) (a : Nat) (w : World) (M X : Nat → Int) (h : LeadAt w a M X) (h0 : 0 ≤ at_) (h1 : at_ ≤ 1000000) (hX : -1000000 ≤ X 2 ∧ X 2 ≤ 1000000) :
    Calls Try.prog 24 #[.pointer (some ⟨a, 0, none⟩), .int .i64 2, .int .i64 at_] w (YesPost a (yesM M 2 at_) (yesX M X 2 at_) w) := by
  obtain ⟨⟨c0, c1, c2, c3, c4, c5⟩, hf⟩ := h.cells
  have f1 := hf 2
  have f2 := hf 5
  have ch := lhas_in a 2 w (by decide) (by decide)
  have HH := Lib.hid h
  unfold yesM yesX
  obtain ⟨x1, x2⟩ := hX
  clear h hf
  by_cases hle : at_ ≤ M 2
  · rw [if_pos hle, if_pos hle]
    go_enter Try.func24, Try.ntmps24
    go_wp2_with fail
    refine Calls.mono ch ?_
    rintro e w1 ⟨rfl, rfl⟩
    go_wp2_with fail
    go_returns
    exact ⟨rfl, HH.out, OnlyA.refl _ _⟩
  · rw [if_neg hle, if_neg hle]
    have HM := Lib.hid ((HH.out.setM 2 (by decide) at_).setX 2 (by decide) (maxI (X 2) (at_ + 1))).drew
    have HO := Lib.hid ((((OnlyA.refl a w).set 2 (.int .i64 at_))).set 5 (.int .i64 (maxI (X 2) (at_ + 1)))).drew
    go_enter Try.func24, Try.ntmps24
    go_wp2_with fail
    refine Calls.mono ch ?_
    rintro e w1 ⟨rfl, rfl⟩
    go_wp2_with fail
    go_region
    go_end0
    exact ⟨rfl, HM.out, HO.out⟩
set_option maxHeartbeats 800000 in
theorem lno_2 (a : Nat) (w : World) (M X : Nat → Int) (h : LeadAt w a M X) (hM : -1000000 ≤ M 2 ∧ M 2 ≤ 1000000) (hX : -1000000 ≤ X 2 ∧ X 2 ≤ 1000000) :
    Calls Try.prog 23 #[.pointer (some ⟨a, 0, none⟩), .int .i64 2] w (YesPost a M (noX M X 2) w) := by
  obtain ⟨⟨c0, c1, c2, c3, c4, c5⟩, hf⟩ := h.cells
  have f2 := hf 5
  have ch := lhas_in a 2 w (by decide) (by decide)
  have HH := Lib.hid h
  unfold noX
  obtain ⟨x1, x2⟩ := hX
  obtain ⟨x3, x4⟩ := hM
  clear h hf
  have HM := Lib.hid (HH.out.setX 2 (by decide) (maxI (X 2 - 1) (M 2 + 1))).drew
  have HO := Lib.hid (((OnlyA.refl a w)).set 5 (.int .i64 (maxI (X 2 - 1) (M 2 + 1)))).drew
  go_enter Try.func23, Try.ntmps23
  go_wp2_with fail
  refine Calls.mono ch ?_
  rintro e w1 ⟨rfl, rfl⟩
  go_wp2_with fail
  go_region
  go_end0
  exact ⟨rfl, HM.out, HO.out⟩
theorem lyes_in (k : Nat) (hk : k < 3) (at_ : Int) (a : Nat) (w : World) (M X : Nat → Int) (h : LeadAt w a M X) (h0 : 0 ≤ at_) (h1 : at_ ≤ 1000000) (hX : -1000000 ≤ X k ∧ X k ≤ 1000000) :
    Calls Try.prog 24 #[.pointer (some ⟨a, 0, none⟩), .int .i64 k, .int .i64 at_] w (YesPost a (yesM M k at_) (yesX M X k at_) w) := by
  match k, hk with
  | 0, _ => exact lyes_0 at_ a w M X h h0 h1 hX
  | 1, _ => exact lyes_1 at_ a w M X h h0 h1 hX
  | 2, _ => exact lyes_2 at_ a w M X h h0 h1 hX
theorem lno_in (k : Nat) (hk : k < 3) (a : Nat) (w : World) (M X : Nat → Int) (h : LeadAt w a M X) (hM : -1000000 ≤ M k ∧ M k ≤ 1000000) (hX : -1000000 ≤ X k ∧ X k ≤ 1000000) :
    Calls Try.prog 23 #[.pointer (some ⟨a, 0, none⟩), .int .i64 k] w (YesPost a M (noX M X k) w) := by
  match k, hk with
  | 0, _ => exact lno_0 a w M X h hM hX
  | 1, _ => exact lno_1 a w M X h hM hX
  | 2, _ => exact lno_2 a w M X h hM hX
theorem lyes_out (who at_ : Int) (h : who < 0 ∨ 3 ≤ who) (a : Nat) (w : World) : Calls Try.prog 24 #[.pointer (some ⟨a, 0, none⟩), .int .i64 who, .int .i64 at_] w fun e w' => e = .returned (.tuple #[]) ∧ w = w' := by
  have ch := lhas_out a who w h
  go_enter Try.func24, Try.ntmps24
  go_wp2_with fail
  refine Calls.mono ch ?_
  rintro e w1 ⟨rfl, rfl⟩
  go_wp2_with fail
  go_returns
  exact ⟨rfl, rfl⟩
theorem lno_out (who : Int) (h : who < 0 ∨ 3 ≤ who) (a : Nat) (w : World) : Calls Try.prog 23 #[.pointer (some ⟨a, 0, none⟩), .int .i64 who] w fun e w' => e = .returned (.tuple #[]) ∧ w = w' := by
  have ch := lhas_out a who w h
  go_enter Try.func23, Try.ntmps23
  go_wp2_with fail
  refine Calls.mono ch ?_
  rintro e w1 ⟨rfl, rfl⟩
  go_wp2_with fail
  go_end0
  exact ⟨rfl, rfl⟩
theorem lyes_nil (who at_ : Int) (w : World) : Calls Try.prog 24 #[.pointer none, .int .i64 who, .int .i64 at_] w fun e w' => e = .returned (.tuple #[]) ∧ w = w' := by
  go_enter Try.func24, Try.ntmps24
  go_wp2_with fail
  refine Calls.mono (lhas_nil who _) ?_
  rintro e w1 ⟨rfl, rfl⟩
  go_wp2_with fail
  go_returns
  exact ⟨rfl, rfl⟩
theorem lno_nil (who : Int) (w : World) : Calls Try.prog 23 #[.pointer none, .int .i64 who] w fun e w' => e = .returned (.tuple #[]) ∧ w = w' := by
  go_enter Try.func23, Try.ntmps23
  go_wp2_with fail
  refine Calls.mono (lhas_nil who _) ?_
  rintro e w1 ⟨rfl, rfl⟩
  go_wp2_with fail
  go_end0
  exact ⟨rfl, rfl⟩
set_option maxHeartbeats 800000 in
theorem lnew (n : Int) (hn : 0 ≤ n) (hn2 : n ≤ 1000000) (w : World) : Calls Try.prog 22 #[.int .i64 n] w fun e w' => e = .returned (.pointer (some ⟨w.heap.size, 0, none⟩)) ∧ LeadAt w' w.heap.size (fun _ => 0) (fun _ => n + 1) ∧ Below w.heap.size w w' := by
  have h0 : LeadAt (w.alloc (.cells (leadA (fun _ => 0) (fun _ => 0)) 141)) w.heap.size (fun _ => 0) (fun i => if i < 0 then n + 1 else 0) := heap_alloc_self _ _
  have hb0 := (Below.refl w.heap.size w).alloc (Nat.le_refl _) (.cells (leadA (fun _ => 0) (fun _ => 0)) 141)
  have H0 := Lib.hid (And.intro h0 hb0)
  clear h0 hb0
  go_enter Try.func22, Try.ntmps22
  go_wp2_with fail
  go_loopw [7] (fun i wr => ∃ k : Nat, k ≤ 3 ∧ i = .int .i64 k ∧ LeadAt wr w.heap.size (fun _ => 0) (fun i => if i < k then n + 1 else 0) ∧ Below w.heap.size w wr) (fun i _ => 3 - (intOf i).toNat)
  case atStart => exact ⟨0, by decide, rfl, H0.out⟩
  case round =>
    obtain ⟨k, hk, rfl, hl, hb⟩ := hrel
    clear H0
    rcases (by omega : k = 3 ∨ k = 0 ∨ k = 1 ∨ k = 2) with rfl | rfl | rfl | rfl
    · have HL := Lib.hid hl
      have HB := Lib.hid hb
      clear hl hb
      go_wp2_with fail
      go_ret
      refine ⟨rfl, ?_, HB.out⟩
      have := HL.out
      unfold LeadAt leadA at this ⊢
      simpa using this
    · have hf := hl.cells.2 3
      obtain ⟨⟨c0, c1, c2, c3, c4, c5⟩, -⟩ := hl.cells
      have HL := Lib.hid (hl.setX 0 (by decide) (n + 1))
      have HB := Lib.hid (hb.setCell (p := ⟨w.heap.size, 3, none⟩) (Nat.le_refl _) (.int .i64 (n + 1)))
      clear hl hb c0 c1 c2
      go_wp2_with fail
      go_roundw
      case rel =>
        refine ⟨1, by decide, rfl, ?_, HB.out⟩
        have := HL.out
        have e : updL (fun i => if i < 0 then n + 1 else 0) 0 (n + 1) = fun i => if i < 1 then n + 1 else 0 := by
          funext i
          unfold updL
          by_cases h : i = 0
          · subst h; rfl
          · rw [if_neg h]
            show (if i < 0 then n + 1 else 0) = _
            by_cases h2 : i < 0
            · rw [if_pos h2, if_pos (by omega)]
            · rw [if_neg h2, if_neg (by omega)]
        rw [e] at this
        exact this
      case measure => simp [intOf]
    · have hf := hl.cells.2 4
      obtain ⟨⟨c0, c1, c2, c3, c4, c5⟩, -⟩ := hl.cells
      have HL := Lib.hid (hl.setX 1 (by decide) (n + 1))
      have HB := Lib.hid (hb.setCell (p := ⟨w.heap.size, 4, none⟩) (Nat.le_refl _) (.int .i64 (n + 1)))
      clear hl hb c0 c1 c2
      go_wp2_with fail
      go_roundw
      case rel =>
        refine ⟨2, by decide, rfl, ?_, HB.out⟩
        have := HL.out
        have e : updL (fun i => if i < 1 then n + 1 else 0) 1 (n + 1) = fun i => if i < 2 then n + 1 else 0 := by
          funext i
          unfold updL
          by_cases h : i = 1
          · subst h; rfl
          · rw [if_neg h]
            show (if i < 1 then n + 1 else 0) = _
            by_cases h2 : i < 1
            · rw [if_pos h2, if_pos (by omega)]
            · rw [if_neg h2, if_neg (by omega)]
        rw [e] at this
        exact this
      case measure => simp [intOf]
    · have hf := hl.cells.2 5
      obtain ⟨⟨c0, c1, c2, c3, c4, c5⟩, -⟩ := hl.cells
      have HL := Lib.hid (hl.setX 2 (by decide) (n + 1))
      have HB := Lib.hid (hb.setCell (p := ⟨w.heap.size, 5, none⟩) (Nat.le_refl _) (.int .i64 (n + 1)))
      clear hl hb c0 c1 c2
      go_wp2_with fail
      go_roundw
      case rel =>
        refine ⟨3, by decide, rfl, ?_, HB.out⟩
        have := HL.out
        have e : updL (fun i => if i < 2 then n + 1 else 0) 2 (n + 1) = fun i => if i < 3 then n + 1 else 0 := by
          funext i
          unfold updL
          by_cases h : i = 2
          · subst h; rfl
          · rw [if_neg h]
            show (if i < 2 then n + 1 else 0) = _
            by_cases h2 : i < 2
            · rw [if_pos h2, if_pos (by omega)]
            · rw [if_neg h2, if_neg (by omega)]
        rw [e] at this
        exact this
      case measure => simp [intOf]
end Go.Proofs.Ytadejhlljdcocaa
