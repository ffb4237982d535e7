/-
  What is done with a block: op's small functions.
-/
import Derived.Test.YtkdmnhmlkcejfaaDoorPndB
import Derived.Test.YtkdmnhmlkcejfaaDoorIput
namespace Go.Proofs.YtkdmnhmlkcejfaaDoor
open Go.RowKit
set_option linter.unusedVariables false
set_option linter.unusedSimpArgs false

/-- may an item be? -/
def MayO (b : Bool) (v : Int) (D : ByteArray) : Prop := (∀ w, Calls Tryd.prog 24 #[.agg (itemA v D)] w fun e w' => e = .returned (.bool b) ∧ Below w.heap.size w w') ∧ ∀ w, Calls Tryd.prog 7 #[.agg (itemA v D)] w fun e w' => e = .returned (.bool b) ∧ Below w.heap.size w w'
theorem mayO (v : Int) (D : ByteArray) : ∃ b, MayO b v D := by
  by_cases h : D = ⟨#[]⟩
  · subst h; exact ⟨true, imay_none v, rmay_none v⟩
  · by_cases h2 : D.size = 32
    · by_cases h3 : D = zeroL 32
      · exact ⟨false, fun w => imay_zero v D w h2 h3, fun w => rmay_zero v D w h2 h3⟩
      · exact ⟨true, fun w => imay_some v D w h2 h3, fun w => rmay_some v D w h2 h3⟩
    · exact ⟨false, fun w => imay_bad v D w h h2, fun w => rmay_bad v D w h h2⟩
/-- an object's cells -/
def opA (e b k : Int) (v1 v2 : Value) (what seq block ver : Int) (D : ByteArray) (sure : Bool) (step : Int) (b0 b1 b2 b3 b4 : Bool) (best : Int) (loaded : Bool) : Array Value :=
  #[.int .i64 e, .int .i64 b, .int .i64 k, v1, v2, .int .i64 what, .int .i64 seq, .int .i64 block, .int .u64 ver, .string D, .bool sure, .int .i64 step, .bool b0, .bool b1, .bool b2, .bool b3, .bool b4, .int .i64 best, .bool loaded]
theorem omirr (X : Nat) (n : Nat) (a1 : Option Addr) (q1 : Nat) (w : World) (h3 : w.cell? ⟨X, 3, none⟩ = some (.slice a1 n q1)) :
    Calls Tryd.prog 54 #[.pointer (some ⟨X, 0, none⟩)] w fun e w' => e = .returned (.bool (decide (0 < n))) ∧ w = w' := by
  go_enter Tryd.func54, Tryd.ntmps54
  go_wp2_with fail
  go_ret
  exact ⟨ret_bool (by simp), rfl⟩
def firstB (what : Int) (m : Bool) : Int := if what = 1 then (if m then 1 else 3) else if what = 0 ∧ m = true then 0 else 2
theorem ofirst (X : Nat) (what : Int) (n : Nat) (a1 : Option Addr) (q1 : Nat) (w : World) (h3 : w.cell? ⟨X, 3, none⟩ = some (.slice a1 n q1)) (h5 : w.cell? ⟨X, 5, none⟩ = some (.int .i64 what)) :
    Calls Tryd.prog 28 #[.pointer (some ⟨X, 0, none⟩)] w fun e w' => e = .returned (.int .i64 (firstB what (decide (0 < n)))) ∧ w = w' := by
  have cm := omirr X n a1 q1 w h3
  generalize decide (0 < n) = m at *
  clear h3
  have hs : what = 1 ∨ what = 0 ∨ (what ≠ 1 ∧ what ≠ 0) := by omega
  rcases hs with rfl | rfl | ⟨n1, n0⟩
  · cases m
    all_goals
      go_enter Tryd.func28, Tryd.ntmps28
      go_wp2_with fail
      refine Calls.mono cm ?_
      rintro e w1 ⟨rfl, rfl⟩
      go_wp2_with fail
      go_ret
      exact ⟨rfl, rfl⟩
  · cases m
    all_goals
      go_enter Tryd.func28, Tryd.ntmps28
      go_wp2_with fail
      refine Calls.mono cm ?_
      rintro e w1 ⟨rfl, rfl⟩
      go_wp2_with fail
      go_ret
      exact ⟨rfl, rfl⟩
  · have t1 : (what == 1) = false := by simpa using n1
    have t0 : (what == 0) = false := by simpa using n0
    have hf : firstB what m = 2 := by simp [firstB, n1, n0]
    rw [hf]
    clear hf
    go_enter Tryd.func28, Tryd.ntmps28
    go_wp2_with fail
    go_ret
    exact ⟨rfl, rfl⟩
theorem ochain (st : Int) (w : World) : Calls Tryd.prog 31 #[.int .i64 st] w fun e w' => e = .returned (.bool (decide (st = 2 ∨ st = 3))) ∧ w = w' := by
  have hs : st = 2 ∨ st = 3 ∨ (st ≠ 2 ∧ st ≠ 3) := by omega
  rcases hs with rfl | rfl | ⟨n1, n0⟩
  · go_enter Tryd.func31, Tryd.ntmps31
    go_wp2_with fail
    go_ret
    exact ⟨rfl, rfl⟩
  · go_enter Tryd.func31, Tryd.ntmps31
    go_wp2_with fail
    go_ret
    exact ⟨rfl, rfl⟩
  · have t1 : (st == 2) = false := by simpa using n1
    have t0 : (st == 3) = false := by simpa using n0
    have hf : decide (st = 2 ∨ st = 3) = false := by simp [n1, n0]
    rw [hf]
    clear hf
    go_enter Tryd.func31, Tryd.ntmps31
    go_wp2_with fail
    go_ret
    exact ⟨rfl, rfl⟩
/-- a step without mirrors' answers -/
theorem obegin_c (st : Int) (hst : st = 2 ∨ st = 3 ∨ st = 5) (X : Nat) (w : World) (e b k : Int) (v1 v2 : Value) (what seq block ver : Int) (D : ByteArray) (sure : Bool) (step : Int) (b0 b1 b2 b3 b4 : Bool) (best : Int) (loaded : Bool)
    (hx : w.heap[X]? = some (.cells (opA e b k v1 v2 what seq block ver D sure step b0 b1 b2 b3 b4 best loaded) 69)) :
    Calls Tryd.prog 27 #[.pointer (some ⟨X, 0, none⟩), .int .i64 st] w fun ev w' => ev = .returned (.tuple #[]) ∧ w'.heap[X]? = some (.cells (opA e b k v1 v2 what seq block ver D sure st b0 b1 b2 b3 b4 best loaded) 69) ∧ Only X w w' := by
  have c11 := cell_atD hx 11 (v := .int .i64 step) rfl
  have fz : w.frozen? ⟨X, 11, none⟩ = false := by simp [World.frozen?, hx]
  have h1 : (w.setCell ⟨X, 11, none⟩ (.int .i64 st)).heap[X]? = some (.cells (opA e b k v1 v2 what seq block ver D sure st b0 b1 b2 b3 b4 best loaded) 69) := heap_set_self hx 11 _
  have ho : Only X w (w.setCell ⟨X, 11, none⟩ (.int .i64 st)) := (Only.refl _ _).set 11 _
  have HH := Lib.hid (And.intro h1 ho)
  clear h1 ho hx
  have cc := fun w => ochain st w
  rcases hst with rfl | rfl | rfl
  all_goals
    simp only [Int.reduceEq, or_true, true_or, or_false, or_self, decide_true, decide_false] at cc
    go_enter Tryd.func27, Tryd.ntmps27
    go_wp2_with fail
    refine Calls.mono (cc _) ?_
    rintro ev w1 ⟨rfl, rfl⟩
    go_wp2_with fail
    go_end0
    exact ⟨rfl, HH.out.1, HH.out.2⟩
/-- a step in which mirrors must answer -/
theorem obegin_m (st : Int) (hst : st = 0 ∨ st = 1) (M : List Int) (a1 : Option Addr) (q1 : Nat) (X : Nat) (w : World) (e b k : Int) (v2 : Value) (what seq block ver : Int) (D : ByteArray) (sure : Bool) (step : Int) (b0 b1 b2 b3 b4 : Bool) (best : Int) (loaded : Bool)
    (hx : w.heap[X]? = some (.cells (opA e b k (.slice a1 M.length q1) v2 what seq block ver D sure step b0 b1 b2 b3 b4 best loaded) 69))
    (hM : ∀ w', Only X w w' → SR w' (.slice a1 M.length q1) 1 M.length (nCells M)) :
    Calls Tryd.prog 27 #[.pointer (some ⟨X, 0, none⟩), .int .i64 st] w fun ev w' => ev = .returned (.tuple #[]) ∧ w'.heap[X]? = some (.cells (opA e b k (.slice a1 M.length q1) v2 what seq block ver D sure st (decide (0 ∈ M)) (decide (1 ∈ M)) (decide (2 ∈ M)) (decide (3 ∈ M)) (decide (4 ∈ M)) best loaded) 69) ∧ Only X w w' := by
  have c11 := cell_atD hx 11 (v := .int .i64 step) rfl
  have fz : w.frozen? ⟨X, 11, none⟩ = false := by simp [World.frozen?, hx]
  have h1 : (w.setCell ⟨X, 11, none⟩ (.int .i64 st)).heap[X]? = some (.cells (opA e b k (.slice a1 M.length q1) v2 what seq block ver D sure st b0 b1 b2 b3 b4 best loaded) 69) := heap_set_self hx 11 _
  have ho : Only X w (w.setCell ⟨X, 11, none⟩ (.int .i64 st)) := (Only.refl _ _).set 11 _
  have hXw := lt_heap hx
  have cO := of_any _ M _ (hM _ ho)
  obtain ⟨w1, hw1⟩ : ∃ w1, w.setCell ⟨X, 11, none⟩ (.int .i64 st) = w1 := ⟨_, rfl⟩
  rw [hw1] at h1 ho cO
  have d3 := cell_atD h1 3 (v := .slice a1 M.length q1) rfl
  have HH := Lib.hid (And.intro h1 ho)
  have HW := Lib.hid hw1
  have hXw1 : X < w1.heap.size := lt_heap h1
  clear h1 ho hx hM
  have cc := fun w => ochain st w
  generalize decide (0 ∈ M) = m0 at *
  generalize decide (1 ∈ M) = m1 at *
  generalize decide (2 ∈ M) = m2 at *
  generalize decide (3 ∈ M) = m3 at *
  generalize decide (4 ∈ M) = m4 at *
  rcases hst with rfl | rfl
  all_goals
    simp only [Int.reduceEq, or_true, true_or, or_false, or_self, decide_true, decide_false] at cc
    go_enter Tryd.func27, Tryd.ntmps27
    go_upto_region 1 with fail
    go_wp2_with fail
    refine Calls.mono (cc _) ?_
    rintro ev w2 ⟨rfl, rfl⟩
    go_wp2_with fail
    refine Calls.mono cO ?_
    rintro ev w2 ⟨rfl, hb2⟩
    have x2 := below_at hb2 hXw1 HH.out.1
    have o2 : Below w1.heap.size w1 w2 := hb2
    have f2 : ∀ j, w2.frozen? ⟨X, j, none⟩ = false := fun j => by simp [World.frozen?, x2]
    have c12 := cell_atD x2 12 (v := .bool b0) rfl
    have c13 := cell_atD x2 13 (v := .bool b1) rfl
    have c14 := cell_atD x2 14 (v := .bool b2) rfl
    have c15 := cell_atD x2 15 (v := .bool b3) rfl
    have c16 := cell_atD x2 16 (v := .bool b4) rfl
    have hh : (((((w2.setCell ⟨X, 12, none⟩ (.bool m0)).setCell ⟨X, 13, none⟩ (.bool m1)).setCell ⟨X, 14, none⟩ (.bool m2)).setCell ⟨X, 15, none⟩ (.bool m3)).setCell ⟨X, 16, none⟩ (.bool m4)).heap[X]? = some _ := heap_set_self (heap_set_self (heap_set_self (heap_set_self (heap_set_self x2 12 _) 13 _) 14 _) 15 _) 16 _
    have hO : Only X w (((((w2.setCell ⟨X, 12, none⟩ (.bool m0)).setCell ⟨X, 13, none⟩ (.bool m1)).setCell ⟨X, 14, none⟩ (.bool m2)).setCell ⟨X, 15, none⟩ (.bool m3)).setCell ⟨X, 16, none⟩ (.bool m4)) := (((((HH.out.2.trans (Only.of_below o2)).set 12 _).set 13 _).set 14 _).set 15 _).set 16 _
    have H3 := Lib.hid (And.intro hh hO)
    clear hh hO x2 hb2
    go_wp2_with fail
    go_end0
    exact ⟨rfl, H3.out.1, H3.out.2⟩
end Go.Proofs.YtkdmnhmlkcejfaaDoor
