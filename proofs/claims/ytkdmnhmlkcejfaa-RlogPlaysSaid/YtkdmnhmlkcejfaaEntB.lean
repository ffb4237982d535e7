/-
  The reference's commands and entries, and the program's: which may be, which are the same; own.Cmd.
-/
import Derived.Test.YtkdmnhmlkcejfaaEntA
namespace Go.Proofs.Ytkdmnhmlkcejfaa
open Go.RowKit
set_option linter.unusedVariables false
set_option linter.unusedSimpArgs false

theorem len_nil (l : List Int) : ((l.length : Int) == 0) = (l == []) := by cases l <;> simp; omega
set_option maxHeartbeats 3200000 in
theorem rmayK (x : Int) (c : CF) (a1 a2 : Option Addr) (q1 q2 : Nat) (w : World) (h : CFat c w (.slice a1 c.M.length q1) (.slice a2 c.C.length q2)) :
    Calls Try.prog 44 #[.agg #[.int .i64 x, .int .i64 c.e, .int .i64 c.b, .int .i64 c.k, .slice a1 c.M.length q1, .slice a2 c.C.length q2]] w fun ev w' => ev = .returned (.bool (mayK x c)) ∧ Below w.heap.size w w' := by
  have hx := heap_alloc_self w (.cells #[.int .i64 x, .int .i64 c.e, .int .i64 c.b, .int .i64 c.k, .slice a1 c.M.length q1, .slice a2 c.C.length q2] 44)
  have hb : Below w.heap.size w (w.alloc (.cells #[.int .i64 x, .int .i64 c.e, .int .i64 c.b, .int .i64 c.k, .slice a1 c.M.length q1, .slice a2 c.C.length q2] 44)) := (Below.refl _ _).alloc (Nat.le_refl _) _
  have lm := len_nil c.M
  have lc := len_nil c.C
  go_enter Try.func44, Try.ntmps44
  go_upto_region 1 with fail
  generalize w.alloc (.cells #[.int .i64 x, .int .i64 c.e, .int .i64 c.b, .int .i64 c.k, .slice a1 c.M.length q1, .slice a2 c.C.length q2] 44) = w1 at *
  have d0 := cell_atD hx 0 (v := .int .i64 x) rfl
  have d1 := cell_atD hx 1 (v := .int .i64 c.e) rfl
  have d2 := cell_atD hx 2 (v := .int .i64 c.b) rfl
  have d3 := cell_atD hx 3 (v := .int .i64 c.k) rfl
  have d4 := cell_atD hx 4 (v := .slice a1 c.M.length q1) rfl
  have d5 := cell_atD hx 5 (v := .slice a2 c.C.length q2) rfl
  have hc := h.below hb
  have cn := rnoneD c a1 a2 q1 q2 w1 hc
  have HX := Lib.hid (And.intro hx (And.intro hb hc))
  clear hx hb hc h
  by_cases x0 : x = 0
  · subst x0
    clear lm lc
    go_wp2_with fail
    refine Calls.mono cn ?_
    rintro ev w2 ⟨rfl, hb2⟩
    have HB := Lib.hid (HX.out.2.1.trans (hb2.mono HX.out.2.1.size))
    clear hb2
    go_wp2_with fail
    go_ret
    exact ⟨ret_bool (by simp [mayK]), HB.out⟩
  by_cases x1 : x = 1
  · subst x1
    clear lm lc
    rcases e0 : c.e == 0
    · go_wp2_with fail
      go_ret
      exact ⟨ret_bool (by simp only [mayK, e0, if_neg (show ¬ ((1 : Int) = 0) by decide), if_true, Bool.false_and]), HX.out.2.1⟩
    rcases e1 : noneC c
    · rw [e1] at cn
      go_wp2_with fail
      refine Calls.mono cn ?_
      rintro ev w2 ⟨rfl, hb2⟩
      have hx2 := below_at hb2 (lt_heap HX.out.1) HX.out.1
      have cm := rmayD c a1 a2 q1 q2 w2 (HX.out.2.2.below hb2)
      have HB := Lib.hid (HX.out.2.1.trans (hb2.mono HX.out.2.1.size))
      clear hb2 cn d0 d1 d2 d3 d4 d5
      have k0 := cell_atD hx2 0 (v := .int .i64 1) rfl
      have k1 := cell_atD hx2 1 (v := .int .i64 c.e) rfl
      have k2 := cell_atD hx2 2 (v := .int .i64 c.b) rfl
      have k3 := cell_atD hx2 3 (v := .int .i64 c.k) rfl
      have k4 := cell_atD hx2 4 (v := .slice a1 c.M.length q1) rfl
      have k5 := cell_atD hx2 5 (v := .slice a2 c.C.length q2) rfl
      clear hx2
      go_wp2_with fail
      refine Calls.mono cm ?_
      rintro ev w3 ⟨rfl, hb3⟩
      have HB3 := Lib.hid (HB.out.trans (hb3.mono HB.out.size))
      clear hb3
      go_wp2_with fail
      go_ret
      exact ⟨ret_bool (by simp only [mayK, e0, e1, if_neg (show ¬ ((1 : Int) = 0) by decide), if_true, Bool.true_and, Bool.not_false]), HB3.out⟩
    · rw [e1] at cn
      go_wp2_with fail
      refine Calls.mono cn ?_
      rintro ev w2 ⟨rfl, hb2⟩
      have HB := Lib.hid (HX.out.2.1.trans (hb2.mono HX.out.2.1.size))
      clear hb2
      go_wp2_with fail
      go_ret
      exact ⟨ret_bool (by simp only [mayK, e0, e1, if_neg (show ¬ ((1 : Int) = 0) by decide), if_true, Bool.true_and, Bool.not_true, Bool.false_and]), HB.out⟩
  by_cases x2 : x = 2
  · subst x2
    clear cn
    rcases y1 : decide (1 ≤ c.e)
    · have g : ¬ (1 ≤ c.e) := by simpa using y1
      go_wp2_with fail
      go_ret
      exact ⟨ret_bool (by simp only [mayK, if_neg (show ¬ ((2 : Int) = 0) by decide), if_neg (show ¬ ((2 : Int) = 1) by decide), if_true, sameC, beq_self_eq_true, y1, Bool.true_and, Bool.false_and, Bool.and_true, Bool.and_false]), HX.out.2.1⟩
    have gy1 : 1 ≤ c.e := by simpa using y1
    rcases y2 : decide (c.e ≤ 1048576)
    · have g : ¬ (c.e ≤ 1048576) := by simpa using y2
      go_wp2_with fail
      go_ret
      exact ⟨ret_bool (by simp only [mayK, if_neg (show ¬ ((2 : Int) = 0) by decide), if_neg (show ¬ ((2 : Int) = 1) by decide), if_true, sameC, beq_self_eq_true, y1, y2, Bool.true_and, Bool.false_and, Bool.and_true, Bool.and_false]), HX.out.2.1⟩
    have gy2 : c.e ≤ 1048576 := by simpa using y2
    rcases y3 : c.b == 0
    · skip
      go_wp2_with fail
      go_ret
      exact ⟨ret_bool (by simp only [mayK, if_neg (show ¬ ((2 : Int) = 0) by decide), if_neg (show ¬ ((2 : Int) = 1) by decide), if_true, sameC, beq_self_eq_true, y1, y2, y3, Bool.true_and, Bool.false_and, Bool.and_true, Bool.and_false]), HX.out.2.1⟩
    rcases y4 : c.k == 0
    · skip
      go_wp2_with fail
      go_ret
      exact ⟨ret_bool (by simp only [mayK, if_neg (show ¬ ((2 : Int) = 0) by decide), if_neg (show ¬ ((2 : Int) = 1) by decide), if_true, sameC, beq_self_eq_true, y1, y2, y3, y4, Bool.true_and, Bool.false_and, Bool.and_true, Bool.and_false]), HX.out.2.1⟩
    rcases y5 : c.M == []
    · skip
      rw [y5] at lm
      go_wp2_with fail
      go_ret
      exact ⟨ret_bool (by simp only [mayK, if_neg (show ¬ ((2 : Int) = 0) by decide), if_neg (show ¬ ((2 : Int) = 1) by decide), if_true, sameC, beq_self_eq_true, y1, y2, y3, y4, y5, Bool.true_and, Bool.false_and, Bool.and_true, Bool.and_false]), HX.out.2.1⟩
    rw [y5] at lm
    rcases y6 : c.C == []
    · skip
      rw [y6] at lc
      go_wp2_with fail
      go_ret
      exact ⟨ret_bool (by simp only [mayK, if_neg (show ¬ ((2 : Int) = 0) by decide), if_neg (show ¬ ((2 : Int) = 1) by decide), if_true, sameC, beq_self_eq_true, y1, y2, y3, y4, y5, y6, Bool.true_and, Bool.false_and, Bool.and_true, Bool.and_false]), HX.out.2.1⟩
    rw [y6] at lc
    go_wp2_with fail
    go_ret
    exact ⟨ret_bool (by simp only [mayK, if_neg (show ¬ ((2 : Int) = 0) by decide), if_neg (show ¬ ((2 : Int) = 1) by decide), if_true, sameC, beq_self_eq_true, y1, y2, y3, y4, y5, y6, Bool.true_and, Bool.false_and, Bool.and_true, Bool.and_false]), HX.out.2.1⟩
  have z0 : (x == 0) = false := by simpa using x0
  have z1 : (x == 1) = false := by simpa using x1
  have z2 : (x == 2) = false := by simpa using x2
  clear lm lc cn
  have HF := Lib.hid (show mayK x c = false by simp only [mayK, if_neg x0, if_neg x1, if_neg x2])
  clear x0 x1 x2
  go_wp2_with fail
  go_ret
  exact ⟨ret_bool HF.out.symm, HX.out.2.1⟩
/-- may an entry be -/
def mayE (t x : Int) (c : CF) : Bool := decide (1 ≤ t) && (decide (t ≤ 1048576) && mayK x c)
def sameE (t x : Int) (c : CF) (t' x' : Int) (d : CF) : Bool := t == t' && (x == x' && sameC c d)
set_option maxHeartbeats 1600000 in
theorem rmayE (t x : Int) (c : CF) (a1 a2 : Option Addr) (q1 q2 : Nat) (w : World) (h : CFat c w (.slice a1 c.M.length q1) (.slice a2 c.C.length q2)) :
    Calls Try.prog 28 #[.agg #[.int .i64 t, .int .i64 x, .int .i64 c.e, .int .i64 c.b, .int .i64 c.k, .slice a1 c.M.length q1, .slice a2 c.C.length q2]] w fun ev w' => ev = .returned (.bool (mayE t x c)) ∧ Below w.heap.size w w' := by
  have hx := heap_alloc_self w (.cells #[.int .i64 t, .int .i64 x, .int .i64 c.e, .int .i64 c.b, .int .i64 c.k, .slice a1 c.M.length q1, .slice a2 c.C.length q2] 46)
  have hb : Below w.heap.size w (w.alloc (.cells #[.int .i64 t, .int .i64 x, .int .i64 c.e, .int .i64 c.b, .int .i64 c.k, .slice a1 c.M.length q1, .slice a2 c.C.length q2] 46)) := (Below.refl _ _).alloc (Nat.le_refl _) _
  go_enter Try.func28, Try.ntmps28
  go_upto_region 1 with fail
  generalize w.alloc (.cells #[.int .i64 t, .int .i64 x, .int .i64 c.e, .int .i64 c.b, .int .i64 c.k, .slice a1 c.M.length q1, .slice a2 c.C.length q2] 46) = w1 at *
  have d0 := cell_atD hx 0 (v := .int .i64 t) rfl
  have d1 := cell_atD hx 1 (v := .int .i64 x) rfl
  have d2 := cell_atD hx 2 (v := .int .i64 c.e) rfl
  have d3 := cell_atD hx 3 (v := .int .i64 c.b) rfl
  have d4 := cell_atD hx 4 (v := .int .i64 c.k) rfl
  have d5 := cell_atD hx 5 (v := .slice a1 c.M.length q1) rfl
  have d6 := cell_atD hx 6 (v := .slice a2 c.C.length q2) rfl
  have cn := rmayK x c a1 a2 q1 q2 w1 (h.below hb)
  have HB := Lib.hid hb
  clear hx hb h
  rcases y1 : decide (1 ≤ t)
  · have g : ¬ (1 ≤ t) := by simpa using y1
    go_wp2_with fail
    go_ret
    exact ⟨ret_bool (by simp only [mayE, y1, Bool.false_and, Bool.true_and]), HB.out⟩
  have gy1 : 1 ≤ t := by simpa using y1
  rcases y2 : decide (t ≤ 1048576)
  · have g : ¬ (t ≤ 1048576) := by simpa using y2
    go_wp2_with fail
    go_ret
    exact ⟨ret_bool (by simp only [mayE, y1, y2, Bool.false_and, Bool.true_and]), HB.out⟩
  have gy2 : t ≤ 1048576 := by simpa using y2
  go_wp2_with fail
  refine Calls.mono cn ?_
  rintro ev w2 ⟨rfl, hb2⟩
  have HB2 := Lib.hid (HB.out.trans (hb2.mono HB.out.size))
  clear hb2
  go_wp2_with fail
  go_ret
  exact ⟨ret_bool (by simp only [mayE, y1, y2, Bool.true_and]), HB2.out⟩
set_option maxHeartbeats 1600000 in
theorem emayE (t x : Int) (c : CF) (a1 a2 : Option Addr) (q1 q2 : Nat) (w : World) (h : CFat c w (.slice a1 c.M.length q1) (.slice a2 c.C.length q2)) :
    Calls Try.prog 33 #[.agg #[.int .i64 t, .int .i64 x, .int .i64 c.e, .int .i64 c.b, .int .i64 c.k, .slice a1 c.M.length q1, .slice a2 c.C.length q2]] w fun ev w' => ev = .returned (.bool (mayE t x c)) ∧ Below w.heap.size w w' := by
  have hx := heap_alloc_self w (.cells #[.int .i64 t, .int .i64 x, .int .i64 c.e, .int .i64 c.b, .int .i64 c.k, .slice a1 c.M.length q1, .slice a2 c.C.length q2] 46)
  have hb : Below w.heap.size w (w.alloc (.cells #[.int .i64 t, .int .i64 x, .int .i64 c.e, .int .i64 c.b, .int .i64 c.k, .slice a1 c.M.length q1, .slice a2 c.C.length q2] 46)) := (Below.refl _ _).alloc (Nat.le_refl _) _
  go_enter Try.func33, Try.ntmps33
  go_upto_region 1 with fail
  generalize w.alloc (.cells #[.int .i64 t, .int .i64 x, .int .i64 c.e, .int .i64 c.b, .int .i64 c.k, .slice a1 c.M.length q1, .slice a2 c.C.length q2] 46) = w1 at *
  have d0 := cell_atD hx 0 (v := .int .i64 t) rfl
  have d1 := cell_atD hx 1 (v := .int .i64 x) rfl
  have d2 := cell_atD hx 2 (v := .int .i64 c.e) rfl
  have d3 := cell_atD hx 3 (v := .int .i64 c.b) rfl
  have d4 := cell_atD hx 4 (v := .int .i64 c.k) rfl
  have d5 := cell_atD hx 5 (v := .slice a1 c.M.length q1) rfl
  have d6 := cell_atD hx 6 (v := .slice a2 c.C.length q2) rfl
  have cn := dmay x c a1 a2 q1 q2 w1 (h.below hb)
  have HB := Lib.hid hb
  clear hx hb h
  rcases y1 : decide (1 ≤ t)
  · have g : ¬ (1 ≤ t) := by simpa using y1
    go_wp2_with fail
    go_ret
    exact ⟨ret_bool (by simp only [mayE, y1, Bool.false_and, Bool.true_and]), HB.out⟩
  have gy1 : 1 ≤ t := by simpa using y1
  rcases y2 : decide (t ≤ 1048576)
  · have g : ¬ (t ≤ 1048576) := by simpa using y2
    go_wp2_with fail
    go_ret
    exact ⟨ret_bool (by simp only [mayE, y1, y2, Bool.false_and, Bool.true_and]), HB.out⟩
  have gy2 : t ≤ 1048576 := by simpa using y2
  go_wp2_with fail
  refine Calls.mono cn ?_
  rintro ev w2 ⟨rfl, hb2⟩
  have HB2 := Lib.hid (HB.out.trans (hb2.mono HB.out.size))
  clear hb2
  go_wp2_with fail
  go_ret
  exact ⟨ret_bool (by simp only [mayE, y1, y2, Bool.true_and]), HB2.out⟩
set_option maxHeartbeats 1600000 in
theorem rsameE (t x : Int) (c : CF) (t' x' : Int) (d : CF) (a1 a2 a3 a4 : Option Addr) (q1 q2 q3 q4 : Nat) (w : World) (h : CFat c w (.slice a1 c.M.length q1) (.slice a2 c.C.length q2)) (h' : CFat d w (.slice a3 d.M.length q3) (.slice a4 d.C.length q4)) :
    Calls Try.prog 14 #[.agg #[.int .i64 t, .int .i64 x, .int .i64 c.e, .int .i64 c.b, .int .i64 c.k, .slice a1 c.M.length q1, .slice a2 c.C.length q2], .agg #[.int .i64 t', .int .i64 x', .int .i64 d.e, .int .i64 d.b, .int .i64 d.k, .slice a3 d.M.length q3, .slice a4 d.C.length q4]] w fun ev w' => ev = .returned (.bool (sameE t x c t' x' d)) ∧ Below w.heap.size w w' := by
  have hx := alloc_far (o := .cells #[.int .i64 t', .int .i64 x', .int .i64 d.e, .int .i64 d.b, .int .i64 d.k, .slice a3 d.M.length q3, .slice a4 d.C.length q4] 46) (heap_alloc_self w (.cells #[.int .i64 t, .int .i64 x, .int .i64 c.e, .int .i64 c.b, .int .i64 c.k, .slice a1 c.M.length q1, .slice a2 c.C.length q2] 46))
  have hy := heap_alloc_self (w.alloc (.cells #[.int .i64 t, .int .i64 x, .int .i64 c.e, .int .i64 c.b, .int .i64 c.k, .slice a1 c.M.length q1, .slice a2 c.C.length q2] 46)) (.cells #[.int .i64 t', .int .i64 x', .int .i64 d.e, .int .i64 d.b, .int .i64 d.k, .slice a3 d.M.length q3, .slice a4 d.C.length q4] 46)
  have hz : (w.alloc (.cells #[.int .i64 t, .int .i64 x, .int .i64 c.e, .int .i64 c.b, .int .i64 c.k, .slice a1 c.M.length q1, .slice a2 c.C.length q2] 46)).heap.size = w.heap.size + 1 := by simp
  rw [hz] at hy
  have hb : Below w.heap.size w ((w.alloc (.cells #[.int .i64 t, .int .i64 x, .int .i64 c.e, .int .i64 c.b, .int .i64 c.k, .slice a1 c.M.length q1, .slice a2 c.C.length q2] 46)).alloc (.cells #[.int .i64 t', .int .i64 x', .int .i64 d.e, .int .i64 d.b, .int .i64 d.k, .slice a3 d.M.length q3, .slice a4 d.C.length q4] 46)) := ((Below.refl _ _).alloc (Nat.le_refl _) _).alloc (by simp) _
  go_enter Try.func14, Try.ntmps14
  go_upto_region 1 with fail
  generalize (w.alloc (.cells #[.int .i64 t, .int .i64 x, .int .i64 c.e, .int .i64 c.b, .int .i64 c.k, .slice a1 c.M.length q1, .slice a2 c.C.length q2] 46)).alloc (.cells #[.int .i64 t', .int .i64 x', .int .i64 d.e, .int .i64 d.b, .int .i64 d.k, .slice a3 d.M.length q3, .slice a4 d.C.length q4] 46) = w1 at *
  have d0 := cell_atD hx 0 (v := .int .i64 t) rfl
  have d1 := cell_atD hx 1 (v := .int .i64 x) rfl
  have d2 := cell_atD hx 2 (v := .int .i64 c.e) rfl
  have d3 := cell_atD hx 3 (v := .int .i64 c.b) rfl
  have d4 := cell_atD hx 4 (v := .int .i64 c.k) rfl
  have d5 := cell_atD hx 5 (v := .slice a1 c.M.length q1) rfl
  have d6 := cell_atD hx 6 (v := .slice a2 c.C.length q2) rfl
  have k0 := cell_atD hy 0 (v := .int .i64 t') rfl
  have k1 := cell_atD hy 1 (v := .int .i64 x') rfl
  have k2 := cell_atD hy 2 (v := .int .i64 d.e) rfl
  have k3 := cell_atD hy 3 (v := .int .i64 d.b) rfl
  have k4 := cell_atD hy 4 (v := .int .i64 d.k) rfl
  have k5 := cell_atD hy 5 (v := .slice a3 d.M.length q3) rfl
  have k6 := cell_atD hy 6 (v := .slice a4 d.C.length q4) rfl
  have cn := rsameD c d a1 a2 a3 a4 q1 q2 q3 q4 w1 (h.below hb) (h'.below hb)
  have HB := Lib.hid hb
  clear hx hy hz hb h h'
  rcases y1 : t == t'
  · go_wp2_with fail
    go_ret
    exact ⟨ret_bool (by simp only [sameE, y1, Bool.false_and, Bool.true_and]), HB.out⟩
  rcases y2 : x == x'
  · go_wp2_with fail
    go_ret
    exact ⟨ret_bool (by simp only [sameE, y1, y2, Bool.false_and, Bool.true_and]), HB.out⟩
  go_wp2_with fail
  refine Calls.mono cn ?_
  rintro ev w2 ⟨rfl, hb2⟩
  have HB2 := Lib.hid (HB.out.trans (hb2.mono HB.out.size))
  clear hb2
  go_wp2_with fail
  go_ret
  exact ⟨ret_bool (by simp only [sameE, y1, y2, Bool.true_and]), HB2.out⟩
end Go.Proofs.Ytkdmnhmlkcejfaa
