/-
  Several texts, laid together.
-/
import Derived.Test.YtlhjgpedmnjbpaaMg6
import Derived.Test.YtlhjgpedmnjbpaaMg11
/-
  The reference's commands and entries, and the program's: which may be, which are the same; own.Cmd.
-/

namespace Go.Proofs.Ytlhjgpedmnjbpaa
open Go.RowKit
set_option linter.unusedVariables false
set_option linter.unusedSimpArgs false

theorem len_nil (l : List Int) : ((l.length : Int) == 0) = (l == []) := by cases l <;> simp; omega
set_option maxHeartbeats 3200000 in
theorem rmayK (x : Int) (c : CF) (a1 a2 : Option Addr) (q1 q2 : Nat) (w : World) (h : CFat c w (.slice a1 c.M.length q1) (.slice a2 c.C.length q2)) :
    Calls Try.prog 13 #[.agg #[.int .i64 x, .int .i64 c.e, .int .i64 c.b, .int .i64 c.k, .slice a1 c.M.length q1, .slice a2 c.C.length q2]] w fun ev w' => ev = .returned (.bool (mayK x c)) ∧ Below w.heap.size w w' := by
  have hx := heap_alloc_self w (.cells #[.int .i64 x, .int .i64 c.e, .int .i64 c.b, .int .i64 c.k, .slice a1 c.M.length q1, .slice a2 c.C.length q2] 26)
  have hb : Below w.heap.size w (w.alloc (.cells #[.int .i64 x, .int .i64 c.e, .int .i64 c.b, .int .i64 c.k, .slice a1 c.M.length q1, .slice a2 c.C.length q2] 26)) := (Below.refl _ _).alloc (Nat.le_refl _) _
  have lm := len_nil c.M
  have lc := len_nil c.C
  go_enter Try.func13, Try.ntmps13
  go_upto_region 1 with fail
  generalize w.alloc (.cells #[.int .i64 x, .int .i64 c.e, .int .i64 c.b, .int .i64 c.k, .slice a1 c.M.length q1, .slice a2 c.C.length q2] 26) = w1 at *
  have d0 := cell_atD hx 0 (v := .int .i64 x) rfl
  have d1 := cell_atD hx 1 (v := .int .i64 c.e) rfl
  have d2 := cell_atD hx 2 (v := .int .i64 c.b) rfl
  have d3 := cell_atD hx 3 (v := .int .i64 c.k) rfl
  have d4 := cell_atD hx 4 (v := .slice a1 c.M.length q1) rfl
  have d5 := cell_atD hx 5 (v := .slice a2 c.C.length q2) rfl
  have hc := h.below hb
  have cn := rnoneD c a1 a2 q1 q2 w1 hc
  have HX := Lib.hid (And.intro hx (And.intro hb hc))
  clear hx hb hc h
  by_cases x0 : x = 0
  · subst x0
    clear lm lc
    go_wp2_with fail
    refine Calls.mono cn ?_
    rintro ev w2 ⟨rfl, hb2⟩
    have HB := Lib.hid (HX.out.2.1.trans (hb2.mono HX.out.2.1.size))
    clear hb2
    go_wp2_with fail
    go_ret
    exact ⟨ret_bool (by simp [mayK]), HB.out⟩
  by_cases x1 : x = 1
  · subst x1
    clear lm lc
    rcases e0 : c.e == 0
    · go_wp2_with fail
      go_ret
      exact ⟨ret_bool (by simp only [mayK, e0, if_neg (show ¬ ((1 : Int) = 0) by decide), if_true, Bool.false_and]), HX.out.2.1⟩
    rcases e1 : noneC c
    · rw [e1] at cn
      go_wp2_with fail
      refine Calls.mono cn ?_
      rintro ev w2 ⟨rfl, hb2⟩
      have hx2 := below_at hb2 (lt_heap HX.out.1) HX.out.1
      have cm := rmayD c a1 a2 q1 q2 w2 (HX.out.2.2.below hb2)
      have HB := Lib.hid (HX.out.2.1.trans (hb2.mono HX.out.2.1.size))
      clear hb2 cn d0 d1 d2 d3 d4 d5
      have k0 := cell_atD hx2 0 (v := .int .i64 1) rfl
      have k1 := cell_atD hx2 1 (v := .int .i64 c.e) rfl
      have k2 := cell_atD hx2 2 (v := .int .i64 c.b) rfl
      have k3 := cell_atD hx2 3 (v := .int .i64 c.k) rfl
      have k4 := cell_atD hx2 4 (v := .slice a1 c.M.length q1) rfl
      have k5 := cell_atD hx2 5 (v := .slice a2 c.C.length q2) rfl
      clear hx2
      go_wp2_with fail
      refine Calls.mono cm ?_
      rintro ev w3 ⟨rfl, hb3⟩
      have HB3 := Lib.hid (HB.out.trans (hb3.mono HB.out.size))
      clear hb3
      go_wp2_with fail
      go_ret
      exact ⟨ret_bool (by simp only [mayK, e0, e1, if_neg (show ¬ ((1 : Int) = 0) by decide), if_true, Bool.true_and, Bool.not_false]), HB3.out⟩
    · rw [e1] at cn
      go_wp2_with fail
      refine Calls.mono cn ?_
      rintro ev w2 ⟨rfl, hb2⟩
      have HB := Lib.hid (HX.out.2.1.trans (hb2.mono HX.out.2.1.size))
      clear hb2
      go_wp2_with fail
      go_ret
      exact ⟨ret_bool (by simp only [mayK, e0, e1, if_neg (show ¬ ((1 : Int) = 0) by decide), if_true, Bool.true_and, Bool.not_true, Bool.false_and]), HB.out⟩
  by_cases x2 : x = 2
  · subst x2
    clear cn
    rcases y1 : decide (1 ≤ c.e)
    · have g : ¬ (1 ≤ c.e) := by simpa using y1
      go_wp2_with fail
      go_ret
      exact ⟨ret_bool (by simp only [mayK, if_neg (show ¬ ((2 : Int) = 0) by decide), if_neg (show ¬ ((2 : Int) = 1) by decide), if_true, sameC, beq_self_eq_true, y1, Bool.true_and, Bool.false_and, Bool.and_true, Bool.and_false]), HX.out.2.1⟩
    have gy1 : 1 ≤ c.e := by simpa using y1
    rcases y2 : decide (c.e ≤ 1048576)
    · have g : ¬ (c.e ≤ 1048576) := by simpa using y2
      go_wp2_with fail
      go_ret
      exact ⟨ret_bool (by simp only [mayK, if_neg (show ¬ ((2 : Int) = 0) by decide), if_neg (show ¬ ((2 : Int) = 1) by decide), if_true, sameC, beq_self_eq_true, y1, y2, Bool.true_and, Bool.false_and, Bool.and_true, Bool.and_false]), HX.out.2.1⟩
    have gy2 : c.e ≤ 1048576 := by simpa using y2
    rcases y3 : c.b == 0
    · skip
      go_wp2_with fail
      go_ret
      exact ⟨ret_bool (by simp only [mayK, if_neg (show ¬ ((2 : Int) = 0) by decide), if_neg (show ¬ ((2 : Int) = 1) by decide), if_true, sameC, beq_self_eq_true, y1, y2, y3, Bool.true_and, Bool.false_and, Bool.and_true, Bool.and_false]), HX.out.2.1⟩
    rcases y4 : c.k == 0
    · skip
      go_wp2_with fail
      go_ret
      exact ⟨ret_bool (by simp only [mayK, if_neg (show ¬ ((2 : Int) = 0) by decide), if_neg (show ¬ ((2 : Int) = 1) by decide), if_true, sameC, beq_self_eq_true, y1, y2, y3, y4, Bool.true_and, Bool.false_and, Bool.and_true, Bool.and_false]), HX.out.2.1⟩
    rcases y5 : c.M == []
    · skip
      rw [y5] at lm
      go_wp2_with fail
      go_ret
      exact ⟨ret_bool (by simp only [mayK, if_neg (show ¬ ((2 : Int) = 0) by decide), if_neg (show ¬ ((2 : Int) = 1) by decide), if_true, sameC, beq_self_eq_true, y1, y2, y3, y4, y5, Bool.true_and, Bool.false_and, Bool.and_true, Bool.and_false]), HX.out.2.1⟩
    rw [y5] at lm
    rcases y6 : c.C == []
    · skip
      rw [y6] at lc
      go_wp2_with fail
      go_ret
      exact ⟨ret_bool (by simp only [mayK, if_neg (show ¬ ((2 : Int) = 0) by decide), if_neg (show ¬ ((2 : Int) = 1) by decide), if_true, sameC, beq_self_eq_true, y1, y2, y3, y4, y5, y6, Bool.true_and, Bool.false_and, Bool.and_true, Bool.and_false]), HX.out.2.1⟩
    rw [y6] at lc
    go_wp2_with fail
    go_ret
    exact ⟨ret_bool (by simp only [mayK, if_neg (show ¬ ((2 : Int) = 0) by decide), if_neg (show ¬ ((2 : Int) = 1) by decide), if_true, sameC, beq_self_eq_true, y1, y2, y3, y4, y5, y6, Bool.true_and, Bool.false_and, Bool.and_true, Bool.and_false]), HX.out.2.1⟩
  have z0 : (x == 0) = false := by simpa using x0
  have z1 : (x == 1) = false := by simpa using x1
  have z2 : (x == 2) = false := by simpa using x2
  clear lm lc cn
  have HF := Lib.hid (show mayK x c = false by simp only [mayK, if_neg x0, if_neg x1, if_neg x2])
  clear x0 x1 x2
  go_wp2_with fail
  go_ret
  exact ⟨ret_bool HF.out.symm, HX.out.2.1⟩
/-- may an entry be -/
def mayE (t x : Int) (c : CF) : Bool := decide (1 ≤ t) && (decide (t ≤ 1048576) && mayK x c)
def sameE (t x : Int) (c : CF) (t' x' : Int) (d : CF) : Bool := t == t' && (x == x' && sameC c d)
set_option maxHeartbeats 1600000 in
theorem rmayE (t x : Int) (c : CF) (a1 a2 : Option Addr) (q1 q2 : Nat) (w : World) (h : CFat c w (.slice a1 c.M.length q1) (.slice a2 c.C.length q2)) :
    Calls Try.prog 92 #[.agg #[.int .i64 t, .int .i64 x, .int .i64 c.e, .int .i64 c.b, .int .i64 c.k, .slice a1 c.M.length q1, .slice a2 c.C.length q2]] w fun ev w' => ev = .returned (.bool (mayE t x c)) ∧ Below w.heap.size w w' := by
  have hx := heap_alloc_self w (.cells #[.int .i64 t, .int .i64 x, .int .i64 c.e, .int .i64 c.b, .int .i64 c.k, .slice a1 c.M.length q1, .slice a2 c.C.length q2] 52)
  have hb : Below w.heap.size w (w.alloc (.cells #[.int .i64 t, .int .i64 x, .int .i64 c.e, .int .i64 c.b, .int .i64 c.k, .slice a1 c.M.length q1, .slice a2 c.C.length q2] 52)) := (Below.refl _ _).alloc (Nat.le_refl _) _
  go_enter Try.func92, Try.ntmps92
  go_upto_region 1 with fail
  generalize w.alloc (.cells #[.int .i64 t, .int .i64 x, .int .i64 c.e, .int .i64 c.b, .int .i64 c.k, .slice a1 c.M.length q1, .slice a2 c.C.length q2] 52) = w1 at *
  have d0 := cell_atD hx 0 (v := .int .i64 t) rfl
  have d1 := cell_atD hx 1 (v := .int .i64 x) rfl
  have d2 := cell_atD hx 2 (v := .int .i64 c.e) rfl
  have d3 := cell_atD hx 3 (v := .int .i64 c.b) rfl
  have d4 := cell_atD hx 4 (v := .int .i64 c.k) rfl
  have d5 := cell_atD hx 5 (v := .slice a1 c.M.length q1) rfl
  have d6 := cell_atD hx 6 (v := .slice a2 c.C.length q2) rfl
  have cn := rmayK x c a1 a2 q1 q2 w1 (h.below hb)
  have HB := Lib.hid hb
  clear hx hb h
  rcases y1 : decide (1 ≤ t)
  · have g : ¬ (1 ≤ t) := by simpa using y1
    go_wp2_with fail
    go_ret
    exact ⟨ret_bool (by simp only [mayE, y1, Bool.false_and, Bool.true_and]), HB.out⟩
  have gy1 : 1 ≤ t := by simpa using y1
  rcases y2 : decide (t ≤ 1048576)
  · have g : ¬ (t ≤ 1048576) := by simpa using y2
    go_wp2_with fail
    go_ret
    exact ⟨ret_bool (by simp only [mayE, y1, y2, Bool.false_and, Bool.true_and]), HB.out⟩
  have gy2 : t ≤ 1048576 := by simpa using y2
  go_wp2_with fail
  refine Calls.mono cn ?_
  rintro ev w2 ⟨rfl, hb2⟩
  have HB2 := Lib.hid (HB.out.trans (hb2.mono HB.out.size))
  clear hb2
  go_wp2_with fail
  go_ret
  exact ⟨ret_bool (by simp only [mayE, y1, y2, Bool.true_and]), HB2.out⟩
set_option maxHeartbeats 1600000 in
theorem emayE (t x : Int) (c : CF) (a1 a2 : Option Addr) (q1 q2 : Nat) (w : World) (h : CFat c w (.slice a1 c.M.length q1) (.slice a2 c.C.length q2)) :
    Calls Try.prog 94 #[.agg #[.int .i64 t, .int .i64 x, .int .i64 c.e, .int .i64 c.b, .int .i64 c.k, .slice a1 c.M.length q1, .slice a2 c.C.length q2]] w fun ev w' => ev = .returned (.bool (mayE t x c)) ∧ Below w.heap.size w w' := by
  have hx := heap_alloc_self w (.cells #[.int .i64 t, .int .i64 x, .int .i64 c.e, .int .i64 c.b, .int .i64 c.k, .slice a1 c.M.length q1, .slice a2 c.C.length q2] 52)
  have hb : Below w.heap.size w (w.alloc (.cells #[.int .i64 t, .int .i64 x, .int .i64 c.e, .int .i64 c.b, .int .i64 c.k, .slice a1 c.M.length q1, .slice a2 c.C.length q2] 52)) := (Below.refl _ _).alloc (Nat.le_refl _) _
  go_enter Try.func94, Try.ntmps94
  go_upto_region 1 with fail
  generalize w.alloc (.cells #[.int .i64 t, .int .i64 x, .int .i64 c.e, .int .i64 c.b, .int .i64 c.k, .slice a1 c.M.length q1, .slice a2 c.C.length q2] 52) = w1 at *
  have d0 := cell_atD hx 0 (v := .int .i64 t) rfl
  have d1 := cell_atD hx 1 (v := .int .i64 x) rfl
  have d2 := cell_atD hx 2 (v := .int .i64 c.e) rfl
  have d3 := cell_atD hx 3 (v := .int .i64 c.b) rfl
  have d4 := cell_atD hx 4 (v := .int .i64 c.k) rfl
  have d5 := cell_atD hx 5 (v := .slice a1 c.M.length q1) rfl
  have d6 := cell_atD hx 6 (v := .slice a2 c.C.length q2) rfl
  have cn := dmay x c a1 a2 q1 q2 w1 (h.below hb)
  have HB := Lib.hid hb
  clear hx hb h
  rcases y1 : decide (1 ≤ t)
  · have g : ¬ (1 ≤ t) := by simpa using y1
    go_wp2_with fail
    go_ret
    exact ⟨ret_bool (by simp only [mayE, y1, Bool.false_and, Bool.true_and]), HB.out⟩
  have gy1 : 1 ≤ t := by simpa using y1
  rcases y2 : decide (t ≤ 1048576)
  · have g : ¬ (t ≤ 1048576) := by simpa using y2
    go_wp2_with fail
    go_ret
    exact ⟨ret_bool (by simp only [mayE, y1, y2, Bool.false_and, Bool.true_and]), HB.out⟩
  have gy2 : t ≤ 1048576 := by simpa using y2
  go_wp2_with fail
  refine Calls.mono cn ?_
  rintro ev w2 ⟨rfl, hb2⟩
  have HB2 := Lib.hid (HB.out.trans (hb2.mono HB.out.size))
  clear hb2
  go_wp2_with fail
  go_ret
  exact ⟨ret_bool (by simp only [mayE, y1, y2, Bool.true_and]), HB2.out⟩
set_option maxHeartbeats 1600000 in
theorem rsameE (t x : Int) (c : CF) (t' x' : Int) (d : CF) (a1 a2 a3 a4 : Option Addr) (q1 q2 q3 q4 : Nat) (w : World) (h : CFat c w (.slice a1 c.M.length q1) (.slice a2 c.C.length q2)) (h' : CFat d w (.slice a3 d.M.length q3) (.slice a4 d.C.length q4)) :
    Calls Try.prog 30 #[.agg #[.int .i64 t, .int .i64 x, .int .i64 c.e, .int .i64 c.b, .int .i64 c.k, .slice a1 c.M.length q1, .slice a2 c.C.length q2], .agg #[.int .i64 t', .int .i64 x', .int .i64 d.e, .int .i64 d.b, .int .i64 d.k, .slice a3 d.M.length q3, .slice a4 d.C.length q4]] w fun ev w' => ev = .returned (.bool (sameE t x c t' x' d)) ∧ Below w.heap.size w w' := by
  have hx := alloc_far (o := .cells #[.int .i64 t', .int .i64 x', .int .i64 d.e, .int .i64 d.b, .int .i64 d.k, .slice a3 d.M.length q3, .slice a4 d.C.length q4] 52) (heap_alloc_self w (.cells #[.int .i64 t, .int .i64 x, .int .i64 c.e, .int .i64 c.b, .int .i64 c.k, .slice a1 c.M.length q1, .slice a2 c.C.length q2] 52))
  have hy := heap_alloc_self (w.alloc (.cells #[.int .i64 t, .int .i64 x, .int .i64 c.e, .int .i64 c.b, .int .i64 c.k, .slice a1 c.M.length q1, .slice a2 c.C.length q2] 52)) (.cells #[.int .i64 t', .int .i64 x', .int .i64 d.e, .int .i64 d.b, .int .i64 d.k, .slice a3 d.M.length q3, .slice a4 d.C.length q4] 52)
  have hz : (w.alloc (.cells #[.int .i64 t, .int .i64 x, .int .i64 c.e, .int .i64 c.b, .int .i64 c.k, .slice a1 c.M.length q1, .slice a2 c.C.length q2] 52)).heap.size = w.heap.size + 1 := by simp
  rw [hz] at hy
  have hb : Below w.heap.size w ((w.alloc (.cells #[.int .i64 t, .int .i64 x, .int .i64 c.e, .int .i64 c.b, .int .i64 c.k, .slice a1 c.M.length q1, .slice a2 c.C.length q2] 52)).alloc (.cells #[.int .i64 t', .int .i64 x', .int .i64 d.e, .int .i64 d.b, .int .i64 d.k, .slice a3 d.M.length q3, .slice a4 d.C.length q4] 52)) := ((Below.refl _ _).alloc (Nat.le_refl _) _).alloc (by simp) _
  go_enter Try.func30, Try.ntmps30
  go_upto_region 1 with fail
  generalize (w.alloc (.cells #[.int .i64 t, .int .i64 x, .int .i64 c.e, .int .i64 c.b, .int .i64 c.k, .slice a1 c.M.length q1, .slice a2 c.C.length q2] 52)).alloc (.cells #[.int .i64 t', .int .i64 x', .int .i64 d.e, .int .i64 d.b, .int .i64 d.k, .slice a3 d.M.length q3, .slice a4 d.C.length q4] 52) = w1 at *
  have d0 := cell_atD hx 0 (v := .int .i64 t) rfl
  have d1 := cell_atD hx 1 (v := .int .i64 x) rfl
  have d2 := cell_atD hx 2 (v := .int .i64 c.e) rfl
  have d3 := cell_atD hx 3 (v := .int .i64 c.b) rfl
  have d4 := cell_atD hx 4 (v := .int .i64 c.k) rfl
  have d5 := cell_atD hx 5 (v := .slice a1 c.M.length q1) rfl
  have d6 := cell_atD hx 6 (v := .slice a2 c.C.length q2) rfl
  have k0 := cell_atD hy 0 (v := .int .i64 t') rfl
  have k1 := cell_atD hy 1 (v := .int .i64 x') rfl
  have k2 := cell_atD hy 2 (v := .int .i64 d.e) rfl
  have k3 := cell_atD hy 3 (v := .int .i64 d.b) rfl
  have k4 := cell_atD hy 4 (v := .int .i64 d.k) rfl
  have k5 := cell_atD hy 5 (v := .slice a3 d.M.length q3) rfl
  have k6 := cell_atD hy 6 (v := .slice a4 d.C.length q4) rfl
  have cn := rsameD c d a1 a2 a3 a4 q1 q2 q3 q4 w1 (h.below hb) (h'.below hb)
  have HB := Lib.hid hb
  clear hx hy hz hb h h'
  rcases y1 : t == t'
  · go_wp2_with fail
    go_ret
    exact ⟨ret_bool (by simp only [sameE, y1, Bool.false_and, Bool.true_and]), HB.out⟩
  rcases y2 : x == x'
  · go_wp2_with fail
    go_ret
    exact ⟨ret_bool (by simp only [sameE, y1, y2, Bool.false_and, Bool.true_and]), HB.out⟩
  go_wp2_with fail
  refine Calls.mono cn ?_
  rintro ev w2 ⟨rfl, hb2⟩
  have HB2 := Lib.hid (HB.out.trans (hb2.mono HB.out.size))
  clear hb2
  go_wp2_with fail
  go_ret
  exact ⟨ret_bool (by simp only [sameE, y1, y2, Bool.true_and]), HB2.out⟩
set_option maxHeartbeats 1600000 in
theorem esameE (t x : Int) (c : CF) (t' x' : Int) (d : CF) (a1 a2 a3 a4 : Option Addr) (q1 q2 q3 q4 : Nat) (w : World) (h : CFat c w (.slice a1 c.M.length q1) (.slice a2 c.C.length q2)) (h' : CFat d w (.slice a3 d.M.length q3) (.slice a4 d.C.length q4)) :
    Calls Try.prog 34 #[.agg #[.int .i64 t, .int .i64 x, .int .i64 c.e, .int .i64 c.b, .int .i64 c.k, .slice a1 c.M.length q1, .slice a2 c.C.length q2], .agg #[.int .i64 t', .int .i64 x', .int .i64 d.e, .int .i64 d.b, .int .i64 d.k, .slice a3 d.M.length q3, .slice a4 d.C.length q4]] w fun ev w' => ev = .returned (.bool (sameE t x c t' x' d)) ∧ Below w.heap.size w w' := by
  have hx := alloc_far (o := .cells #[.int .i64 t', .int .i64 x', .int .i64 d.e, .int .i64 d.b, .int .i64 d.k, .slice a3 d.M.length q3, .slice a4 d.C.length q4] 52) (heap_alloc_self w (.cells #[.int .i64 t, .int .i64 x, .int .i64 c.e, .int .i64 c.b, .int .i64 c.k, .slice a1 c.M.length q1, .slice a2 c.C.length q2] 52))
  have hy := heap_alloc_self (w.alloc (.cells #[.int .i64 t, .int .i64 x, .int .i64 c.e, .int .i64 c.b, .int .i64 c.k, .slice a1 c.M.length q1, .slice a2 c.C.length q2] 52)) (.cells #[.int .i64 t', .int .i64 x', .int .i64 d.e, .int .i64 d.b, .int .i64 d.k, .slice a3 d.M.length q3, .slice a4 d.C.length q4] 52)
  have hz : (w.alloc (.cells #[.int .i64 t, .int .i64 x, .int .i64 c.e, .int .i64 c.b, .int .i64 c.k, .slice a1 c.M.length q1, .slice a2 c.C.length q2] 52)).heap.size = w.heap.size + 1 := by simp
  rw [hz] at hy
  have hb : Below w.heap.size w ((w.alloc (.cells #[.int .i64 t, .int .i64 x, .int .i64 c.e, .int .i64 c.b, .int .i64 c.k, .slice a1 c.M.length q1, .slice a2 c.C.length q2] 52)).alloc (.cells #[.int .i64 t', .int .i64 x', .int .i64 d.e, .int .i64 d.b, .int .i64 d.k, .slice a3 d.M.length q3, .slice a4 d.C.length q4] 52)) := ((Below.refl _ _).alloc (Nat.le_refl _) _).alloc (by simp) _
  go_enter Try.func34, Try.ntmps34
  go_upto_region 1 with fail
  generalize (w.alloc (.cells #[.int .i64 t, .int .i64 x, .int .i64 c.e, .int .i64 c.b, .int .i64 c.k, .slice a1 c.M.length q1, .slice a2 c.C.length q2] 52)).alloc (.cells #[.int .i64 t', .int .i64 x', .int .i64 d.e, .int .i64 d.b, .int .i64 d.k, .slice a3 d.M.length q3, .slice a4 d.C.length q4] 52) = w1 at *
  have d0 := cell_atD hx 0 (v := .int .i64 t) rfl
  have d1 := cell_atD hx 1 (v := .int .i64 x) rfl
  have d2 := cell_atD hx 2 (v := .int .i64 c.e) rfl
  have d3 := cell_atD hx 3 (v := .int .i64 c.b) rfl
  have d4 := cell_atD hx 4 (v := .int .i64 c.k) rfl
  have d5 := cell_atD hx 5 (v := .slice a1 c.M.length q1) rfl
  have d6 := cell_atD hx 6 (v := .slice a2 c.C.length q2) rfl
  have k0 := cell_atD hy 0 (v := .int .i64 t') rfl
  have k1 := cell_atD hy 1 (v := .int .i64 x') rfl
  have k2 := cell_atD hy 2 (v := .int .i64 d.e) rfl
  have k3 := cell_atD hy 3 (v := .int .i64 d.b) rfl
  have k4 := cell_atD hy 4 (v := .int .i64 d.k) rfl
  have k5 := cell_atD hy 5 (v := .slice a3 d.M.length q3) rfl
  have k6 := cell_atD hy 6 (v := .slice a4 d.C.length q4) rfl
  have cn := csameD c d a1 a2 a3 a4 q1 q2 q3 q4 w1 (h.below hb) (h'.below hb)
  have HB := Lib.hid hb
  clear hx hy hz hb h h'
  rcases y1 : t == t'
  · go_wp2_with fail
    go_ret
    exact ⟨ret_bool (by simp only [sameE, y1, Bool.false_and, Bool.true_and]), HB.out⟩
  rcases y2 : x == x'
  · go_wp2_with fail
    go_ret
    exact ⟨ret_bool (by simp only [sameE, y1, y2, Bool.false_and, Bool.true_and]), HB.out⟩
  go_wp2_with fail
  refine Calls.mono cn ?_
  rintro ev w2 ⟨rfl, hb2⟩
  have HB2 := Lib.hid (HB.out.trans (hb2.mono HB.out.size))
  clear hb2
  go_wp2_with fail
  go_ret
  exact ⟨ret_bool (by simp only [sameE, y1, y2, Bool.true_and]), HB2.out⟩
end Go.Proofs.Ytlhjgpedmnjbpaa
/-
  An entry out of whatever bytes: entry.Take.
-/


namespace Go.Proofs.Ytlhjgpedmnjbpaa
open Go.RowKit
set_option linter.unusedVariables false
set_option linter.unusedSimpArgs false

/-- what taking an entry leaves of a source, and what it tells -/
def RS.entS (q : RS) : RS := if mayE (q.numV 1048576) (q.numS 1048576).cmdK (q.numS 1048576).cmdV = true then (q.numS 1048576).cmdS else (q.numS 1048576).cmdS.fail 3
def RS.entT (q : RS) : Int := if q.entS.e ≠ 0 then 0 else q.numV 1048576
def RS.entX (q : RS) : Int := if q.entS.e ≠ 0 then 0 else (q.numS 1048576).cmdK
def RS.entC (q : RS) : CF := if q.entS.e ≠ 0 then ⟨0, 0, 0, [], []⟩ else (q.numS 1048576).cmdV
def ETakeP (b : Nat) (w : World) (t x : Int) (c : CF) (S : RS) (ev : Ending) (w' : World) : Prop :=
  ∃ d1 s1 d2 s2, ev = .returned (.agg #[.int .i64 t, .int .i64 x, .int .i64 c.e, .int .i64 c.b, .int .i64 c.k, .slice d1 c.M.length s1, .slice d2 c.C.length s2]) ∧ CFO c (w.heap.size + 1) w' (.slice d1 c.M.length s1) (.slice d2 c.C.length s2) ∧ Src w' b S ∧ Only b w w'
def MidE (b N2 base : Nat) (w2 : World) (U x : Int) (c : CF) (a2 : Option Addr) (p2 : Nat) (a3 : Option Addr) (p3 : Nat) (S : RS) (wx : World) : Prop :=
  wx.heap[N2]? = some (.cells #[.int .i64 U, .int .i64 x, .int .i64 c.e, .int .i64 c.b, .int .i64 c.k, .slice a2 c.M.length p2, .slice a3 c.C.length p3] 52) ∧ Src wx b S ∧ Only b w2 wx ∧ CFO c base wx (.slice a2 c.M.length p2) (.slice a3 c.C.length p3)
theorem MidE.below {b N2 base p2 p3 : Nat} {a2 a3 : Option Addr} {w2 wx wy : World} {U x : Int} {c : CF} {S : RS} (h : MidE b N2 base w2 U x c a2 p2 a3 p3 S wx) (hb : Below wx.heap.size wx wy) : MidE b N2 base w2 U x c a2 p2 a3 p3 S wy := by
  obtain ⟨h1, h2, h3, h4⟩ := h
  exact ⟨below_at hb (lt_heap h1) h1, below_at hb (lt_heap h2) h2, h3.trans (onlyBe hb), h4.below hb⟩
theorem MidE.src {b N2 base p2 p3 : Nat} {a2 a3 : Option Addr} {w2 wx wy : World} {U x : Int} {c : CF} {S S' : RS} (h : MidE b N2 base w2 U x c a2 p2 a3 p3 S wx) (hs : Src wy b S') (ho : Only b wx wy) (h1 : N2 ≠ b) (h2 : b < base) : MidE b N2 base w2 U x c a2 p2 a3 p3 S' wy := by
  obtain ⟨g1, g2, g3, g4⟩ := h
  exact ⟨(ho.block N2 (lt_heap g1) h1).trans g1, hs, g3.trans ho, g4.only ho h2⟩
set_option maxHeartbeats 6400000 in
set_option maxRecDepth 40000 in
theorem etakeG (q : RS) (b : Nat) (w : World) (h : Src w b q) :
    Calls Try.prog 29 #[.pointer (some ⟨b, 0, none⟩)] w (ETakeP b w q.entT q.entX q.entC q.entS) := by
  have hx := heap_alloc_self w (.cells #[.int .i64 0, .int .i64 0, .int .i64 0, .int .i64 0, .int .i64 0, .slice none 0 0, .slice none 0 0] 52)
  have hb : Below w.heap.size w (w.alloc (.cells #[.int .i64 0, .int .i64 0, .int .i64 0, .int .i64 0, .int .i64 0, .slice none 0 0, .slice none 0 0] 52)) := (Below.refl _ _).alloc (Nat.le_refl _) _
  have hbl : b < w.heap.size := lt_heap h
  have h1 : Src (w.alloc (.cells #[.int .i64 0, .int .i64 0, .int .i64 0, .int .i64 0, .int .i64 0, .slice none 0 0, .slice none 0 0] 52)) b _ := below_at hb hbl h
  have c1 := int_src b q 1048576 _ (by decide) h1
  have hz : (w.alloc (.cells #[.int .i64 0, .int .i64 0, .int .i64 0, .int .i64 0, .int .i64 0, .slice none 0 0, .slice none 0 0] 52)).heap.size = w.heap.size + 1 := by simp
  obtain ⟨S2, hS2⟩ : ∃ S2, q.entS = S2 := ⟨_, rfl⟩
  obtain ⟨F, hF⟩ : ∃ F, q.entC = F := ⟨_, rfl⟩
  obtain ⟨FT, hFT⟩ : ∃ FT, q.entT = FT := ⟨_, rfl⟩
  obtain ⟨FX, hFX⟩ : ∃ FX, q.entX = FX := ⟨_, rfl⟩
  obtain ⟨q1, hq1⟩ : ∃ q1, q.numS 1048576 = q1 := ⟨_, rfl⟩
  obtain ⟨U, hU⟩ : ∃ U : Int, (q.numV 1048576 : Int) = U := ⟨_, rfl⟩
  obtain ⟨x, hxx⟩ : ∃ x, q1.cmdK = x := ⟨_, rfl⟩
  obtain ⟨c, hc⟩ : ∃ c, q1.cmdV = c := ⟨_, rfl⟩
  obtain ⟨s1, hs1⟩ : ∃ s1, q1.cmdS = s1 := ⟨_, rfl⟩
  have e2 : S2 = if mayE U x c = true then s1 else s1.fail 3 := by rw [← hS2, RS.entS, hq1, hU, hxx, hc, hs1]
  have e3 : F = if S2.e ≠ 0 then ⟨0, 0, 0, [], []⟩ else c := by rw [← hF, RS.entC, hS2, hq1, hc]
  have e4 : FT = if S2.e ≠ 0 then 0 else U := by rw [← hFT, RS.entT, hS2, hU]
  have e5 : FX = if S2.e ≠ 0 then 0 else x := by rw [← hFX, RS.entX, hS2, hq1, hxx]
  rw [hS2, hF, hFT, hFX]
  have c1' : Calls Try.prog 80 #[.pointer (some ⟨b, 0, none⟩), .int .i64 1048576] (w.alloc (.cells #[.int .i64 0, .int .i64 0, .int .i64 0, .int .i64 0, .int .i64 0, .slice none 0 0, .slice none 0 0] 52)) fun e w' => e = .returned (.int .i64 U) ∧ Src w' b q1 ∧ Only b (w.alloc (.cells #[.int .i64 0, .int .i64 0, .int .i64 0, .int .i64 0, .int .i64 0, .slice none 0 0, .slice none 0 0] 52)) w' := by
    rw [← hU, ← hq1]
    exact c1
  have c2 : ∀ w', Src w' b q1 → Calls Try.prog 16 #[.pointer (some ⟨b, 0, none⟩)] w' (DTakeP b w' x c s1) := by
    intro w' hs
    have := dtakeG q1 b w' hs
    rw [hxx, hc, hs1] at this
    exact this
  have HE := Lib.hid (And.intro e2 (And.intro e3 (And.intro e4 e5)))
  have H2 := Lib.hid c2
  clear hS2 hF hFT hFX hq1 hU hxx hc hs1 e2 e3 e4 e5 h1 c1 c2
  go_enter Try.func29, Try.ntmps29
  go_upto_region 1 with fail
  generalize w.alloc (.cells #[.int .i64 0, .int .i64 0, .int .i64 0, .int .i64 0, .int .i64 0, .slice none 0 0, .slice none 0 0] 52) = w1 at *
  have HX := Lib.hid (And.intro hx (And.intro hb hz))
  clear hx hb hz h
  go_wp2_with fail
  refine Calls.mono c1' ?_
  rintro ev w2 ⟨rfl, s2, t2⟩
  have c2 := H2.out w2 s2
  have HY := Lib.hid t2
  clear c1' s2 t2
  go_wp2_with fail
  refine Calls.mono c2 ?_
  rintro ev w3 ⟨a2, p2, a3, p3, rfl, hL3, s3, t3⟩
  obtain ⟨hx, hb, hz⟩ := HX.out
  have hO2 : Only b w w3 := ((onlyBe hb).trans HY.out).trans t3
  have hx3 : w3.heap[w.heap.size]? = some _ := ((HY.out.trans t3).block _ (lt_heap hx) (by omega)).trans hx
  have hz3 : w.heap.size + 1 ≤ w3.heap.size := by have := HY.out.size; have := t3.size; omega
  have hL : CFO c (w.heap.size + 1) w3 (.slice a2 c.M.length p2) (.slice a3 c.C.length p3) := CFO.base hL3 (by have := HY.out.size; omega)
  have hP := heap_alloc_self w3 (.cells #[.int .i64 U, .int .i64 x, .int .i64 c.e, .int .i64 c.b, .int .i64 c.k, .slice a2 c.M.length p2, .slice a3 c.C.length p3] 52)
  have hb34 : Below w3.heap.size w3 (w3.alloc (.cells #[.int .i64 U, .int .i64 x, .int .i64 c.e, .int .i64 c.b, .int .i64 c.k, .slice a2 c.M.length p2, .slice a3 c.C.length p3] 52)) := (Below.refl _ _).alloc (Nat.le_refl _) _
  have HM4 := Lib.hid (show MidE b w3.heap.size (w.heap.size + 1) w3 U x c a2 p2 a3 p3 s1 (w3.alloc (.cells #[.int .i64 U, .int .i64 x, .int .i64 c.e, .int .i64 c.b, .int .i64 c.k, .slice a2 c.M.length p2, .slice a3 c.C.length p3] 52)) from ⟨hP, below_at hb34 (lt_heap s3) s3, onlyBe hb34, hL.below hb34⟩)
  have H3 := Lib.hid (And.intro hx3 (And.intro hz3 hO2))
  clear HX HY hx hb hz hO2 hx3 hz3 hL hP hb34 c2 H2 hL3 s3 t3
  go_upto_region 2 with fail
  generalize w3.alloc (.cells #[.int .i64 U, .int .i64 x, .int .i64 c.e, .int .i64 c.b, .int .i64 c.k, .slice a2 c.M.length p2, .slice a3 c.C.length p3] 52) = w4 at *
  obtain ⟨N2, hN2⟩ : ∃ N2, w3.heap.size = N2 := ⟨_, rfl⟩
  try rw [hN2]
  have HN2 := Lib.hid hN2
  rw [hN2] at HM4
  clear hN2
  obtain ⟨hP6, hs6, ho6, hL6⟩ := HM4.out
  have m0 := cell_atD hP6 0 (v := .int .i64 U) rfl
  have m1 := cell_atD hP6 1 (v := .int .i64 x) rfl
  have m2 := cell_atD hP6 2 (v := .int .i64 c.e) rfl
  have m3 := cell_atD hP6 3 (v := .int .i64 c.b) rfl
  have m4 := cell_atD hP6 4 (v := .int .i64 c.k) rfl
  have m5 := cell_atD hP6 5 (v := .slice a2 c.M.length p2) rfl
  have m6 := cell_atD hP6 6 (v := .slice a3 c.C.length p3) rfl
  have cm := emayE U x c a2 a3 p2 p3 w4 hL6.at_
  obtain ⟨mb, hmb⟩ : ∃ mb, mayE U x c = mb := ⟨_, rfl⟩
  rw [hmb] at cm
  have HMB := Lib.hid hmb
  clear hmb hP6 hs6 ho6 hL6
  go_wp2_with fail
  refine Calls.mono cm ?_
  rintro ev w7 ⟨rfl, hb7⟩
  have HM7 := Lib.hid (HM4.out.below hb7)
  have cw := wrong_src b s1 3 w7 HM7.out.2.1
  clear cm hb7 m0 m1 m2 m3 m4 m5 m6 HM4
  go_upto_if 11 with fail
  go_cut [] (fun wx => MidE b N2 (w.heap.size + 1) w3 U x c a2 p2 a3 p3 S2 wx)
  case first =>
    cases mb
    · have es2 : s1.fail 3 = S2 := by rw [HE.out.1, if_neg (by rw [HMB.out]; decide)]
      rw [es2] at cw
      clear es2
      go_wp2_with fail
      refine Calls.mono cw ?_
      rintro ev w8 ⟨rfl, hs8, ho8⟩
      have HM := Lib.hid (HM7.out.src hs8 ho8 (by have := H3.out.2.1; have := HN2.out; omega) (by omega))
      clear hs8 ho8 cw
      go_wp2_with fail
      go_meet
      exact HM.out
    · have es2 : s1 = S2 := by rw [HE.out.1, if_pos HMB.out]
      have HM := Lib.hid (show MidE b N2 (w.heap.size + 1) w3 U x c a2 p2 a3 p3 S2 w7 by rw [← es2]; exact HM7.out)
      clear es2 cw
      go_wp2_with fail
      go_meet
      exact HM.out
  case rest =>
    clear cw HM7 HMB
    obtain ⟨hP7, hs7, ho7, hL7⟩ := hcut
    obtain ⟨W7, hW7⟩ : ∃ W, wc = W := ⟨_, rfl⟩
    subst hW7
    have ce := err_some b S2.e wc (Src.c1 hs7)
    have hx7 : wc.heap[w.heap.size]? = some _ := (ho7.block _ (by have := H3.out.2.1; omega) (by omega)).trans H3.out.1
    have n0 := cell_atD hP7 0 (v := .int .i64 U) rfl
    have n1 := cell_atD hP7 1 (v := .int .i64 x) rfl
    have n2 := cell_atD hP7 2 (v := .int .i64 c.e) rfl
    have n3 := cell_atD hP7 3 (v := .int .i64 c.b) rfl
    have n4 := cell_atD hP7 4 (v := .int .i64 c.k) rfl
    have n5 := cell_atD hP7 5 (v := .slice a2 c.M.length p2) rfl
    have n6 := cell_atD hP7 6 (v := .slice a3 c.C.length p3) rfl
    have z0 := cell_atD hx7 0 (v := .int .i64 0) rfl
    have z1 := cell_atD hx7 1 (v := .int .i64 0) rfl
    have z2 := cell_atD hx7 2 (v := .int .i64 0) rfl
    have z3 := cell_atD hx7 3 (v := .int .i64 0) rfl
    have z4 := cell_atD hx7 4 (v := .int .i64 0) rfl
    have z5 := cell_atD hx7 5 (v := .slice none 0 0) rfl
    have z6 := cell_atD hx7 6 (v := .slice none 0 0) rfl
    have fz : ∀ j, wc.frozen? ⟨w.heap.size, j, none⟩ = false := fun j => by simp [World.frozen?, hx7]
    have H7 := Lib.hid (And.intro hP7 (And.intro hs7 (And.intro ho7 (And.intro hx7 hL7))))
    clear hP7 hs7 ho7 hL7
    by_cases hE : S2.e = 0
    · have eF : F = c := by rw [HE.out.2.1, if_neg (by simpa using hE)]
      have eT : FT = U := by rw [HE.out.2.2.1, if_neg (by simpa using hE)]
      have eX : FX = x := by rw [HE.out.2.2.2, if_neg (by simpa using hE)]
      subst eF eT eX
      rw [hE] at ce
      have g1 : (wc.setCell ⟨w.heap.size, 0, none⟩ (.int .i64 FT)).heap[w.heap.size]? = some (.cells #[.int .i64 FT, .int .i64 0, .int .i64 0, .int .i64 0, .int .i64 0, .slice none 0 0, .slice none 0 0] 52) := heap_set_self hx7 0 _
      have g2 : ((wc.setCell ⟨w.heap.size, 0, none⟩ (.int .i64 FT)).setCell ⟨w.heap.size, 1, none⟩ (.int .i64 FX)).heap[w.heap.size]? = some (.cells #[.int .i64 FT, .int .i64 FX, .int .i64 0, .int .i64 0, .int .i64 0, .slice none 0 0, .slice none 0 0] 52) := heap_set_self g1 1 _
      have g3 : (((wc.setCell ⟨w.heap.size, 0, none⟩ (.int .i64 FT)).setCell ⟨w.heap.size, 1, none⟩ (.int .i64 FX)).setCell ⟨w.heap.size, 2, none⟩ (.int .i64 F.e)).heap[w.heap.size]? = some (.cells #[.int .i64 FT, .int .i64 FX, .int .i64 F.e, .int .i64 0, .int .i64 0, .slice none 0 0, .slice none 0 0] 52) := heap_set_self g2 2 _
      have g4 : ((((wc.setCell ⟨w.heap.size, 0, none⟩ (.int .i64 FT)).setCell ⟨w.heap.size, 1, none⟩ (.int .i64 FX)).setCell ⟨w.heap.size, 2, none⟩ (.int .i64 F.e)).setCell ⟨w.heap.size, 3, none⟩ (.int .i64 F.b)).heap[w.heap.size]? = some (.cells #[.int .i64 FT, .int .i64 FX, .int .i64 F.e, .int .i64 F.b, .int .i64 0, .slice none 0 0, .slice none 0 0] 52) := heap_set_self g3 3 _
      have g5 : (((((wc.setCell ⟨w.heap.size, 0, none⟩ (.int .i64 FT)).setCell ⟨w.heap.size, 1, none⟩ (.int .i64 FX)).setCell ⟨w.heap.size, 2, none⟩ (.int .i64 F.e)).setCell ⟨w.heap.size, 3, none⟩ (.int .i64 F.b)).setCell ⟨w.heap.size, 4, none⟩ (.int .i64 F.k)).heap[w.heap.size]? = some (.cells #[.int .i64 FT, .int .i64 FX, .int .i64 F.e, .int .i64 F.b, .int .i64 F.k, .slice none 0 0, .slice none 0 0] 52) := heap_set_self g4 4 _
      have g6 : ((((((wc.setCell ⟨w.heap.size, 0, none⟩ (.int .i64 FT)).setCell ⟨w.heap.size, 1, none⟩ (.int .i64 FX)).setCell ⟨w.heap.size, 2, none⟩ (.int .i64 F.e)).setCell ⟨w.heap.size, 3, none⟩ (.int .i64 F.b)).setCell ⟨w.heap.size, 4, none⟩ (.int .i64 F.k)).setCell ⟨w.heap.size, 5, none⟩ (.slice a2 F.M.length p2)).heap[w.heap.size]? = some (.cells #[.int .i64 FT, .int .i64 FX, .int .i64 F.e, .int .i64 F.b, .int .i64 F.k, .slice a2 F.M.length p2, .slice none 0 0] 52) := heap_set_self g5 5 _
      have g7 : (((((((wc.setCell ⟨w.heap.size, 0, none⟩ (.int .i64 FT)).setCell ⟨w.heap.size, 1, none⟩ (.int .i64 FX)).setCell ⟨w.heap.size, 2, none⟩ (.int .i64 F.e)).setCell ⟨w.heap.size, 3, none⟩ (.int .i64 F.b)).setCell ⟨w.heap.size, 4, none⟩ (.int .i64 F.k)).setCell ⟨w.heap.size, 5, none⟩ (.slice a2 F.M.length p2)).setCell ⟨w.heap.size, 6, none⟩ (.slice a3 F.C.length p3)).heap[w.heap.size]? = some (.cells #[.int .i64 FT, .int .i64 FX, .int .i64 F.e, .int .i64 F.b, .int .i64 F.k, .slice a2 F.M.length p2, .slice a3 F.C.length p3] 52) := heap_set_self g6 6 _
      have GI := Lib.hid g7
      have GO := Lib.hid (show Only (w.heap.size) wc (((((((wc.setCell ⟨w.heap.size, 0, none⟩ (.int .i64 FT)).setCell ⟨w.heap.size, 1, none⟩ (.int .i64 FX)).setCell ⟨w.heap.size, 2, none⟩ (.int .i64 F.e)).setCell ⟨w.heap.size, 3, none⟩ (.int .i64 F.b)).setCell ⟨w.heap.size, 4, none⟩ (.int .i64 F.k)).setCell ⟨w.heap.size, 5, none⟩ (.slice a2 F.M.length p2)).setCell ⟨w.heap.size, 6, none⟩ (.slice a3 F.C.length p3)) from (((((((Only.refl _ _).set 0 _).set 1 _).set 2 _).set 3 _).set 4 _).set 5 _).set 6 _)
      clear g1 g2 g3 g4 g5 g6 g7
      clear hx7 hE
      go_wp2_with fail
      refine Calls.mono ce ?_
      rintro ev w8 ⟨rfl, rfl⟩
      go_wp2_with fail
      generalize (((((((wc.setCell ⟨w.heap.size, 0, none⟩ (.int .i64 FT)).setCell ⟨w.heap.size, 1, none⟩ (.int .i64 FX)).setCell ⟨w.heap.size, 2, none⟩ (.int .i64 F.e)).setCell ⟨w.heap.size, 3, none⟩ (.int .i64 F.b)).setCell ⟨w.heap.size, 4, none⟩ (.int .i64 F.k)).setCell ⟨w.heap.size, 5, none⟩ (.slice a2 F.M.length p2)).setCell ⟨w.heap.size, 6, none⟩ (.slice a3 F.C.length p3)) = wf at *
      have fi := GI.out
      have t0 := cell_atD fi 0 (v := .int .i64 FT) rfl
      have t1 := cell_atD fi 1 (v := .int .i64 FX) rfl
      have t2 := cell_atD fi 2 (v := .int .i64 F.e) rfl
      have t3 := cell_atD fi 3 (v := .int .i64 F.b) rfl
      have t4 := cell_atD fi 4 (v := .int .i64 F.k) rfl
      have t5 := cell_atD fi 5 (v := .slice a2 F.M.length p2) rfl
      have t6 := cell_atD fi 6 (v := .slice a3 F.C.length p3) rfl
      clear fi
      refine bodyPost_ret (v := .agg #[.int .i64 FT, .int .i64 FX, .int .i64 F.e, .int .i64 F.b, .int .i64 F.k, .slice a2 F.M.length p2, .slice a3 F.C.length p3]) (by simp [results, Try.results29, go_sem, t0, t1, t2, t3, t4, t5, t6]) rfl ?_
      obtain ⟨hP7, hs7, ho7, hx7, hL7⟩ := H7.out
      exact ⟨a2, p2, a3, p3, rfl, hL7.only GO.out (by omega), (GO.out.block b (lt_heap hs7) (by omega)).trans hs7, onlyPast2 H3.out.2.2 ho7 GO.out⟩
    · have eF : F = ⟨0, 0, 0, [], []⟩ := by rw [HE.out.2.1, if_pos hE]
      have eT : FT = 0 := by rw [HE.out.2.2.1, if_pos hE]
      have eX : FX = 0 := by rw [HE.out.2.2.2, if_pos hE]
      subst eF eT eX
      have u1 : (S2.e != 0) = true := by simpa using hE
      have u2 : (S2.e == 0) = false := by simpa using hE
      have g1 : (wc.setCell ⟨w.heap.size, 0, none⟩ (.int .i64 0)).heap[w.heap.size]? = some (.cells #[.int .i64 0, .int .i64 0, .int .i64 0, .int .i64 0, .int .i64 0, .slice none 0 0, .slice none 0 0] 52) := heap_set_self hx7 0 _
      have g2 : ((wc.setCell ⟨w.heap.size, 0, none⟩ (.int .i64 0)).setCell ⟨w.heap.size, 1, none⟩ (.int .i64 0)).heap[w.heap.size]? = some (.cells #[.int .i64 0, .int .i64 0, .int .i64 0, .int .i64 0, .int .i64 0, .slice none 0 0, .slice none 0 0] 52) := heap_set_self g1 1 _
      have g3 : (((wc.setCell ⟨w.heap.size, 0, none⟩ (.int .i64 0)).setCell ⟨w.heap.size, 1, none⟩ (.int .i64 0)).setCell ⟨w.heap.size, 2, none⟩ (.int .i64 0)).heap[w.heap.size]? = some (.cells #[.int .i64 0, .int .i64 0, .int .i64 0, .int .i64 0, .int .i64 0, .slice none 0 0, .slice none 0 0] 52) := heap_set_self g2 2 _
      have g4 : ((((wc.setCell ⟨w.heap.size, 0, none⟩ (.int .i64 0)).setCell ⟨w.heap.size, 1, none⟩ (.int .i64 0)).setCell ⟨w.heap.size, 2, none⟩ (.int .i64 0)).setCell ⟨w.heap.size, 3, none⟩ (.int .i64 0)).heap[w.heap.size]? = some (.cells #[.int .i64 0, .int .i64 0, .int .i64 0, .int .i64 0, .int .i64 0, .slice none 0 0, .slice none 0 0] 52) := heap_set_self g3 3 _
      have g5 : (((((wc.setCell ⟨w.heap.size, 0, none⟩ (.int .i64 0)).setCell ⟨w.heap.size, 1, none⟩ (.int .i64 0)).setCell ⟨w.heap.size, 2, none⟩ (.int .i64 0)).setCell ⟨w.heap.size, 3, none⟩ (.int .i64 0)).setCell ⟨w.heap.size, 4, none⟩ (.int .i64 0)).heap[w.heap.size]? = some (.cells #[.int .i64 0, .int .i64 0, .int .i64 0, .int .i64 0, .int .i64 0, .slice none 0 0, .slice none 0 0] 52) := heap_set_self g4 4 _
      have g6 : ((((((wc.setCell ⟨w.heap.size, 0, none⟩ (.int .i64 0)).setCell ⟨w.heap.size, 1, none⟩ (.int .i64 0)).setCell ⟨w.heap.size, 2, none⟩ (.int .i64 0)).setCell ⟨w.heap.size, 3, none⟩ (.int .i64 0)).setCell ⟨w.heap.size, 4, none⟩ (.int .i64 0)).setCell ⟨w.heap.size, 5, none⟩ (.slice none 0 0)).heap[w.heap.size]? = some (.cells #[.int .i64 0, .int .i64 0, .int .i64 0, .int .i64 0, .int .i64 0, .slice none 0 0, .slice none 0 0] 52) := heap_set_self g5 5 _
      have g7 : (((((((wc.setCell ⟨w.heap.size, 0, none⟩ (.int .i64 0)).setCell ⟨w.heap.size, 1, none⟩ (.int .i64 0)).setCell ⟨w.heap.size, 2, none⟩ (.int .i64 0)).setCell ⟨w.heap.size, 3, none⟩ (.int .i64 0)).setCell ⟨w.heap.size, 4, none⟩ (.int .i64 0)).setCell ⟨w.heap.size, 5, none⟩ (.slice none 0 0)).setCell ⟨w.heap.size, 6, none⟩ (.slice none 0 0)).heap[w.heap.size]? = some (.cells #[.int .i64 0, .int .i64 0, .int .i64 0, .int .i64 0, .int .i64 0, .slice none 0 0, .slice none 0 0] 52) := heap_set_self g6 6 _
      have GI := Lib.hid g7
      have GO := Lib.hid (show Only (w.heap.size) wc (((((((wc.setCell ⟨w.heap.size, 0, none⟩ (.int .i64 0)).setCell ⟨w.heap.size, 1, none⟩ (.int .i64 0)).setCell ⟨w.heap.size, 2, none⟩ (.int .i64 0)).setCell ⟨w.heap.size, 3, none⟩ (.int .i64 0)).setCell ⟨w.heap.size, 4, none⟩ (.int .i64 0)).setCell ⟨w.heap.size, 5, none⟩ (.slice none 0 0)).setCell ⟨w.heap.size, 6, none⟩ (.slice none 0 0)) from (((((((Only.refl _ _).set 0 _).set 1 _).set 2 _).set 3 _).set 4 _).set 5 _).set 6 _)
      clear g1 g2 g3 g4 g5 g6 g7
      clear hx7 hE
      go_wp2_with fail
      refine Calls.mono ce ?_
      rintro ev w8 ⟨rfl, rfl⟩
      go_wp2_with fail
      generalize (((((((wc.setCell ⟨w.heap.size, 0, none⟩ (.int .i64 0)).setCell ⟨w.heap.size, 1, none⟩ (.int .i64 0)).setCell ⟨w.heap.size, 2, none⟩ (.int .i64 0)).setCell ⟨w.heap.size, 3, none⟩ (.int .i64 0)).setCell ⟨w.heap.size, 4, none⟩ (.int .i64 0)).setCell ⟨w.heap.size, 5, none⟩ (.slice none 0 0)).setCell ⟨w.heap.size, 6, none⟩ (.slice none 0 0)) = wf at *
      have fi := GI.out
      have t0 := cell_atD fi 0 (v := .int .i64 0) rfl
      have t1 := cell_atD fi 1 (v := .int .i64 0) rfl
      have t2 := cell_atD fi 2 (v := .int .i64 0) rfl
      have t3 := cell_atD fi 3 (v := .int .i64 0) rfl
      have t4 := cell_atD fi 4 (v := .int .i64 0) rfl
      have t5 := cell_atD fi 5 (v := .slice none 0 0) rfl
      have t6 := cell_atD fi 6 (v := .slice none 0 0) rfl
      clear fi
      refine bodyPost_ret (v := .agg #[.int .i64 0, .int .i64 0, .int .i64 0, .int .i64 0, .int .i64 0, .slice none 0 0, .slice none 0 0]) (by simp [results, Try.results29, go_sem, t0, t1, t2, t3, t4, t5, t6]) rfl ?_
      obtain ⟨hP7, hs7, ho7, hx7, hL7⟩ := H7.out
      exact ⟨none, 0, none, 0, rfl, ⟨World.ownsRow_nil _ _ _ _, World.ownsRow_nil _ _ _ _⟩, (GO.out.block b (lt_heap hs7) (by omega)).trans hs7, onlyPast2 H3.out.2.2 ho7 GO.out⟩
end Go.Proofs.Ytlhjgpedmnjbpaa
/-
  A command and an entry as bytes: decide.Put, entry.Put.
-/

namespace Go.Proofs.Ytlhjgpedmnjbpaa
open Go.RowKit
set_option linter.unusedVariables false
set_option linter.unusedSimpArgs false

/-- a command's bytes, an entry's -/
def putD (x : Int) (c : CF) : List UInt8 := putN x.toNat ++ (if x = 2 then putN c.e.toNat else putC c)
def putE (t x : Int) (c : CF) : List UInt8 := putN t.toNat ++ putD x c
/-- few enough -/
def LowC (c : CF) : Prop := low63 [c.e, c.b, c.k] ∧ low63 c.M ∧ low63 c.C
theorem may_low {c : CF} (h : mayC c = true) : LowC c := by
  obtain ⟨h1, ⟨m1, m2⟩, ⟨n1, n2⟩⟩ := may_in h
  refine ⟨⟨by simp, fun x hx => ?_⟩, ⟨by omega, fun x hx => ?_⟩, ⟨by omega, fun x hx => ?_⟩⟩
  · have := h1 x hx; omega
  · have := m2 x hx; omega
  · have := n2 x hx; omega
theorem none_zero {c : CF} (h : noneC c = true) : c = ⟨0, 0, 0, [], []⟩ := by
  obtain ⟨e, b, k, M, C⟩ := c
  simp only [noneC, Bool.and_eq_true, beq_iff_eq] at h
  obtain ⟨h1, h2, h3, h4, h5⟩ := h
  have e1 := List.eq_nil_of_length_eq_zero h4
  have e2 := List.eq_nil_of_length_eq_zero h5
  subst h1 h2 h3 e1 e2
  rfl
theorem none_may {c : CF} (h : noneC c = true) : mayC c = true := by unfold mayC; rw [h]; rfl
theorem mayK_in {x : Int} {c : CF} (h : mayK x c = true) : 0 ≤ x ∧ x ≤ 2 ∧ LowC c ∧ (x ≠ 2 → mayC c = true) ∧ (x = 2 → 1 ≤ c.e ∧ c.e ≤ 1048576 ∧ c = ⟨c.e, 0, 0, [], []⟩) := by
  unfold mayK at h
  by_cases h0 : x = 0
  · subst h0
    rw [if_pos rfl] at h
    exact ⟨by decide, by decide, may_low (none_may h), fun _ => none_may h, fun e => absurd e (by decide)⟩
  rw [if_neg h0] at h
  by_cases h1 : x = 1
  · subst h1
    rw [if_pos rfl] at h
    simp only [Bool.and_eq_true] at h
    exact ⟨by decide, by decide, may_low h.2.2, fun _ => h.2.2, fun e => absurd e (by decide)⟩
  rw [if_neg h1] at h
  by_cases h2 : x = 2
  · subst h2
    rw [if_pos rfl] at h
    simp only [Bool.and_eq_true, decide_eq_true_eq] at h
    obtain ⟨he1, he2, hs⟩ := h
    have hc : c = ⟨c.e, 0, 0, [], []⟩ := by
      obtain ⟨e, b, k, M, C⟩ := c
      simp [sameC] at hs
      obtain ⟨r1, r2, r3, r4⟩ := hs
      subst r1 r2 r3 r4
      rfl
    refine ⟨by decide, by decide, ?_, fun e => absurd rfl e, fun _ => ⟨he1, he2, hc⟩⟩
    rw [hc]
    exact ⟨⟨by simp, fun x hx => by simp at hx; omega⟩, ⟨by simp, fun x hx => by simp at hx⟩, ⟨by simp, fun x hx => by simp at hx⟩⟩
  · rw [if_neg h2] at h
    exact absurd h (by decide)
theorem putC_len {c : CF} (h : LowC c) : (putC c).length ≤ 40000 := by
  have h1 := listN_len h.1
  have h2 := listN_len h.2.1
  have h3 := listN_len h.2.2
  unfold putC
  simp only [List.length_append]
  omega
theorem putD_len {x : Int} {c : CF} (hx : 0 ≤ x ∧ x ≤ 9223372036854775807) (h : LowC c) : (putD x c).length ≤ 40018 := by
  have h1 := putC_len h
  have h2 := putN_length x.toNat (by omega)
  have h3 := putN_length c.e.toNat (by have := h.1.2 c.e (by simp); omega)
  unfold putD
  rw [List.length_append]
  split <;> omega
set_option maxHeartbeats 1600000 in
set_option maxRecDepth 40000 in
theorem dput (x : Int) (c : CF) (a1 a2 : Option Addr) (q1 q2 : Nat) (w : World) (h : CFat c w (.slice a1 c.M.length q1) (.slice a2 c.C.length q2)) (hx : 0 ≤ x ∧ x ≤ 9223372036854775807) (hl : LowC c) :
    Calls Try.prog 137 #[.agg #[.int .i64 x, .int .i64 c.e, .int .i64 c.b, .int .i64 c.k, .slice a1 c.M.length q1, .slice a2 c.C.length q2]] w fun ev w' => ev = .returned (.string ⟨(putD x c).toArray⟩) ∧ Below w.heap.size w w' := by
  have hy := heap_alloc_self w (.cells #[.int .i64 x, .int .i64 c.e, .int .i64 c.b, .int .i64 c.k, .slice a1 c.M.length q1, .slice a2 c.C.length q2] 26)
  have hb : Below w.heap.size w (w.alloc (.cells #[.int .i64 x, .int .i64 c.e, .int .i64 c.b, .int .i64 c.k, .slice a1 c.M.length q1, .slice a2 c.C.length q2] 26)) := (Below.refl _ _).alloc (Nat.le_refl _) _
  have hx0 := hx.1
  have hx1 := hx.2
  have hm : max x 0 = x := by omega
  have hu : U64 x := ⟨by omega, by omega⟩
  have he2 := hl.1.2 c.e (by simp)
  have hu2 : U64 (max c.e 0) := ⟨by omega, by omega⟩
  have hw1 : IntKind.u64.wrap x = x := wrap_u64_in _ hu
  have hw2 : IntKind.u64.wrap (max c.e 0) = max c.e 0 := wrap_u64_in _ hu2
  have hme : (max c.e 0).toNat = c.e.toNat := by omega
  have l1 := putN_length x.toNat (by omega)
  have l2 := putN_length c.e.toNat (by omega)
  have l3 := putC_len hl
  have cp1 := fun w => put_any x w hu
  have cp2 := fun w => put_any (max c.e 0) w hu2
  simp only [hme] at cp2
  have HPD := Lib.hid (show putD x c = putN x.toNat ++ (if x = 2 then putN c.e.toNat else putC c) from rfl)
  obtain ⟨R, hR⟩ : ∃ R, putD x c = R := ⟨_, rfl⟩
  rw [hR] at HPD
  rw [hR]
  obtain ⟨P, hP⟩ : ∃ P, putN x.toNat = P := ⟨_, rfl⟩
  obtain ⟨E, hE⟩ : ∃ E, putN c.e.toNat = E := ⟨_, rfl⟩
  simp only [hP] at cp1 HPD l1
  simp only [hE] at cp2 HPD l2
  have HX := Lib.hid (And.intro hy (And.intro hb (h.below hb)))
  have HLC := Lib.hid hl
  obtain ⟨tb, htb⟩ : ∃ tb, (x == 2) = tb := ⟨_, rfl⟩
  have HTB := Lib.hid htb
  clear hme hR hP hE hb h hl hu hu2 hx
  go_enter Try.func137, Try.ntmps137
  go_upto_region 1 with fail
  generalize w.alloc (.cells #[.int .i64 x, .int .i64 c.e, .int .i64 c.b, .int .i64 c.k, .slice a1 c.M.length q1, .slice a2 c.C.length q2] 26) = w1 at *
  clear hy
  have d0 := cell_atD HX.out.1 0 (v := .int .i64 x) rfl
  go_wp2_with fail
  refine Calls.mono (cp1 _) ?_
  rintro ev w2 ⟨rfl, hb2⟩
  have hy2 := below_at hb2 (lt_heap HX.out.1) HX.out.1
  have hL2 := HX.out.2.2.below hb2
  have HB2 := Lib.hid (HX.out.2.1.trans (hb2.mono HX.out.2.1.size))
  clear d0 hb2 cp1
  have d0 := cell_atD hy2 0 (v := .int .i64 x) rfl
  have d1 := cell_atD hy2 1 (v := .int .i64 c.e) rfl
  have d2 := cell_atD hy2 2 (v := .int .i64 c.b) rfl
  have d3 := cell_atD hy2 3 (v := .int .i64 c.k) rfl
  have d4 := cell_atD hy2 4 (v := .slice a1 c.M.length q1) rfl
  have d5 := cell_atD hy2 5 (v := .slice a2 c.C.length q2) rfl
  have cc := cputC c a1 a2 q1 q2 w2 hL2 HLC.out.1 HLC.out.2.1 HLC.out.2.2
  have s1 := str_append P E
  have s2 := str_append P (putC c)
  have n1 : P.length + E.length ≤ 9223372036854775807 := by omega
  have n2 : P.length + (putC c).length ≤ 9223372036854775807 := by omega
  obtain ⟨Q, hQ⟩ : ∃ Q, putC c = Q := ⟨_, rfl⟩
  rw [hQ] at cc s2 n2
  simp only [hQ] at HPD
  clear hQ hy2 hL2 l3
  cases tb
  · have hf : P ++ Q = R := by rw [HPD.out, if_neg (by have := HTB.out; simpa using this)]
    have HF := Lib.hid hf
    have hne : ¬ x = 2 := by have := HTB.out; simpa using this
    clear hf
    go_wp2_with fail
    refine Calls.mono cc ?_
    rintro ev w3 ⟨rfl, hb3⟩
    have HB3 := Lib.hid (HB2.out.trans (hb3.mono HB2.out.size))
    clear hb3 cc
    go_wp2_with fail
    go_ret
    exact ⟨ret_str (by rw [HF.out]), HB3.out⟩
  · have hf : P ++ E = R := by rw [HPD.out, if_pos (by have := HTB.out; simpa using this)]
    have HF := Lib.hid hf
    clear hf cc
    go_wp2_with fail
    refine Calls.mono (cp2 _) ?_
    rintro ev w3 ⟨rfl, hb3⟩
    have HB3 := Lib.hid (HB2.out.trans (hb3.mono HB2.out.size))
    clear hb3 cp2
    go_wp2_with fail
    go_ret
    exact ⟨ret_str (by rw [HF.out]), HB3.out⟩
end Go.Proofs.Ytlhjgpedmnjbpaa
