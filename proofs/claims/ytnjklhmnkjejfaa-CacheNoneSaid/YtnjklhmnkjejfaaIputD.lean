/-
  Items there and back: an item near another one (layer 8).
-/
import Derived.Test.YtnjklhmnkjejfaaIputC
namespace Go.Proofs.Ytnjklhmnkjejfaa
open Go.RowKit
set_option linter.unusedVariables false
set_option linter.unusedSimpArgs false

theorem item_over {w4 : World} {R : Nat} {u : Int} {E : ByteArray} (y : w4.heap[R]? = some (.cells #[.int .u64 u, .string E] 24)) (v : Int) (D : ByteArray) :
    ((w4.setCell ⟨R, 0, none⟩ (.int .u64 v)).setCell ⟨R, 1, none⟩ (.string D)).cell? ⟨R, 0, none⟩ = some (.int .u64 v) ∧ ((w4.setCell ⟨R, 0, none⟩ (.int .u64 v)).setCell ⟨R, 1, none⟩ (.string D)).cell? ⟨R, 1, none⟩ = some (.string D) := by
  have k2 := heap_set_self (heap_set_self y 0 (.int .u64 v)) 1 (.string D)
  exact ⟨by simp [World.cell?, k2], by simp [World.cell?, k2]⟩
set_option maxRecDepth 100000 in
theorem near08 (v : Int) (s : ByteArray) (odd : Int) (w : World) (hs : s.size ≤ maxLen) :
    Calls Try.prog 39 #[.agg (itemA v s), .int .i64 odd] w fun e w' => ∃ l : List UInt8, l.length ≤ 40 ∧ e = .returned (.agg (itemA v ⟨l.toArray⟩)) ∧ Below w.heap.size w w' := by
  unfold itemA
  obtain ⟨t, ht⟩ : ∃ t, min (s.size : Int) 40 = t := ⟨_, rfl⟩
  have ht1 : t ≤ 40 := by omega
  have ht2 : t ≤ (s.size : Int) := by omega
  have ht0 : 0 ≤ t := by omega
  obtain ⟨q, hq⟩ : ∃ q, min (s.size : Int) 9 = q := ⟨_, rfl⟩
  have hq1 : q ≤ 9 := by omega
  have hq2 : q ≤ (s.size : Int) := by omega
  have hq0 : 0 ≤ q := by omega
  have cb := fun w => block_any (⟨#[49]⟩ ++ s.extract 0 q.toNat) w (by
    have : (s.extract 0 q.toNat).size ≤ s.size := by rw [ByteArray.size_extract]; omega
    have h2 : (s.extract 0 q.toNat).size ≤ 9 := by rw [ByteArray.size_extract]; omega
    rw [ByteArray.size_append]; unfold maxLen; show 1 + _ ≤ _; omega)
  obtain ⟨m, hm⟩ : ∃ m, bits .and .i64 odd 7 = m := ⟨_, rfl⟩
  have hx0 := heap_alloc_self (w.alloc (.cells #[.int .u64 v, .string s] 24)) (.cells #[.int .u64 0, .string ⟨#[]⟩] 24)
  have hy0 := Below.heap_alloc (w.alloc (.cells #[.int .u64 v, .string s] 24)) (.cells #[.int .u64 0, .string ⟨#[]⟩] 24) w.heap.size (by simp)
  rw [heap_alloc_self] at hy0
  have hb0 : Below w.heap.size w ((w.alloc (.cells #[.int .u64 v, .string s] 24)).alloc (.cells #[.int .u64 0, .string ⟨#[]⟩] 24)) := ((Below.refl _ _).alloc (Nat.le_refl _) _).alloc (by simp) _
  rw [show (w.alloc (.cells #[.int .u64 v, .string s] 24)).heap.size = w.heap.size + 1 by simp] at hx0
  go_enter Try.func39, Try.ntmps39
  go_upto_region 1 with fail
  generalize (w.alloc (.cells #[.int .u64 v, .string s] 24)).alloc (.cells #[.int .u64 0, .string ⟨#[]⟩] 24) = w0 at *
  obtain ⟨B, hB⟩ : ∃ B, w.heap.size = B := ⟨_, rfl⟩
  rw [hB] at hx0 hy0 hb0
  try rw [hB]
  have a0 : w0.cell? ⟨B, 0, none⟩ = some (.int .u64 v) := by simp [World.cell?, hy0]
  have r0 : w0.cell? ⟨B + 1, 0, none⟩ = some (.int .u64 0) := by simp [World.cell?, hx0]
  have r1 : w0.cell? ⟨B + 1, 1, none⟩ = some (.string ⟨#[]⟩) := by simp [World.cell?, hx0]
  have g0 : w0.frozen? ⟨B + 1, 0, none⟩ = false := by simp [World.frozen?, hx0]
  have g1 : w0.frozen? ⟨B + 1, 1, none⟩ = false := by simp [World.frozen?, hx0]
  have hx1 := heap_set_self (heap_set_self hx0 0 (.int .u64 v)) 1 (.string ⟨#[]⟩)
  have hy1 : ((w0.setCell ⟨B + 1, 0, none⟩ (.int .u64 v)).setCell ⟨B + 1, 1, none⟩ (.string ⟨#[]⟩)).heap[B]? = _ := (Below.heap_setCell _ _ _ _ (by show B ≠ B + 1; omega)).trans ((Below.heap_setCell _ _ _ _ (by show B ≠ B + 1; omega)).trans hy0)
  have hb1 : Below B w ((w0.setCell ⟨B + 1, 0, none⟩ (.int .u64 v)).setCell ⟨B + 1, 1, none⟩ (.string ⟨#[]⟩)) := (hb0.setCell (Nat.le_succ B) _).setCell (Nat.le_succ B) _
  clear hx0 hy0 hb0
  go_upto_region 2 with fail
  generalize (w0.setCell ⟨B + 1, 0, none⟩ (.int .u64 v)).setCell ⟨B + 1, 1, none⟩ (.string ⟨#[]⟩) = w1 at *
  clear a0 r0 r1 g0 g1
  have hx2 : w1.heap[B + 1]? = some (.cells #[.int .u64 v, .string ⟨#[]⟩] 24) := by simpa using hx1
  have a0 : w1.cell? ⟨B, 0, none⟩ = some (.int .u64 v) := by simp [World.cell?, hy1]
  have a1 : w1.cell? ⟨B, 1, none⟩ = some (.string s) := by simp [World.cell?, hy1]
  have r0 : w1.cell? ⟨B + 1, 0, none⟩ = some (.int .u64 v) := by simp [World.cell?, hx2]
  have r1 : w1.cell? ⟨B + 1, 1, none⟩ = some (.string ⟨#[]⟩) := by simp [World.cell?, hx2]
  have g0 : w1.frozen? ⟨B + 1, 0, none⟩ = false := by simp [World.frozen?, hx2]
  have g1 : w1.frozen? ⟨B + 1, 1, none⟩ = false := by simp [World.frozen?, hx2]
  have HX := Lib.hid hx2
  have HB1 := Lib.hid hb1
  clear hx1 hx2 hy1 hb1
  by_cases hm0 : m = 0
  · subst hm0
    go_wp2_with fail
    (try simp only [Exit.inBlock, Exit.then])
    obtain ⟨s0, s1⟩ := item_over HX.out v ⟨#[]⟩
    have FO := Lib.hid ((HB1.out.setCell (p := ⟨B + 1, 0, none⟩) (Nat.le_succ B) (.int .u64 v)).setCell (p := ⟨B + 1, 1, none⟩) (Nat.le_succ B) (.string ⟨#[]⟩))
    generalize (w1.setCell ⟨B + 1, 0, none⟩ (.int .u64 v)).setCell ⟨B + 1, 1, none⟩ (.string ⟨#[]⟩) = w5 at *
    refine bodyPost_ret (v := .agg #[.int .u64 v, .string ⟨#[]⟩]) (by simp [results, Try.results39, go_sem, s0, s1]) rfl ?_
    exact ⟨[], by simp, rfl, by rw [hB]; exact FO.out⟩
  · by_cases hm1 : m = 1
    · subst hm1
      obtain ⟨E, hE⟩ : ∃ E : ByteArray, s.extract 0 t.toNat = E := ⟨_, rfl⟩
      have hEs : E.size ≤ 40 := by rw [← hE, ByteArray.size_extract]; omega
      have hy : (w1.setCell ⟨B + 1, 1, none⟩ (.string E)).heap[B + 1]? = some (.cells #[.int .u64 v, .string E] 24) := by simpa using heap_set_self HX.out 1 (.string E)
      have hb := HB1.out.setCell (p := ⟨B + 1, 1, none⟩) (Nat.le_succ B) (.string E)
      have HEs := Lib.hid hEs
      have HY := Lib.hid hy
      have HBB := Lib.hid hb
      clear hy hb hEs
      go_wp2_with fail
      (try simp only [Exit.inBlock, Exit.then])
      obtain ⟨s0, s1⟩ := item_over HY.out v E
      have FO := Lib.hid ((HBB.out.setCell (p := ⟨B + 1, 0, none⟩) (Nat.le_succ B) (.int .u64 v)).setCell (p := ⟨B + 1, 1, none⟩) (Nat.le_succ B) (.string E))
      generalize ((w1.setCell ⟨B + 1, 1, none⟩ (.string E)).setCell ⟨B + 1, 0, none⟩ (.int .u64 v)).setCell ⟨B + 1, 1, none⟩ (.string E) = w5 at *
      refine bodyPost_ret (v := .agg #[.int .u64 v, .string E]) (by simp [results, Try.results39, go_sem, s0, s1]) rfl ?_
      exact ⟨E.data.toList, HEs.out, rfl, by rw [hB]; exact FO.out⟩
    · have e0 : (m == 0) = false := by simpa using hm0
      have e1 : (m == 1) = false := by simpa using hm1
      go_wp2_with fail
      refine Calls.mono (cb _) ?_
      rintro e w2 ⟨T, rfl, hT, -, hb2⟩
      have hx := below_at hb2 (lt_heap HX.out) HX.out
      clear r0 r1 g0 g1 a0 a1
      have r0 : w2.cell? ⟨B + 1, 0, none⟩ = some (.int .u64 v) := by simp [World.cell?, hx]
      have r1 : w2.cell? ⟨B + 1, 1, none⟩ = some (.string ⟨#[]⟩) := by simp [World.cell?, hx]
      have g0 : w2.frozen? ⟨B + 1, 0, none⟩ = false := by simp [World.frozen?, hx]
      have g1 : w2.frozen? ⟨B + 1, 1, none⟩ = false := by simp [World.frozen?, hx]
      have hy : (w2.setCell ⟨B + 1, 1, none⟩ (.string T)).heap[B + 1]? = some (.cells #[.int .u64 v, .string T] 24) := by simpa using heap_set_self hx 1 (.string T)
      have hb := (HB1.out.trans (hb2.mono (by have := HB1.out.size; omega))).setCell (p := ⟨B + 1, 1, none⟩) (Nat.le_succ B) (.string T)
      have HEs := Lib.hid (show T.size ≤ 40 by omega)
      have HY := Lib.hid hy
      have HBB := Lib.hid hb
      clear hy hb hT hx hb2
      go_wp2_with fail
      (try simp only [Exit.inBlock, Exit.then])
      obtain ⟨s0, s1⟩ := item_over HY.out v T
      have FO := Lib.hid ((HBB.out.setCell (p := ⟨B + 1, 0, none⟩) (Nat.le_succ B) (.int .u64 v)).setCell (p := ⟨B + 1, 1, none⟩) (Nat.le_succ B) (.string T))
      generalize ((w2.setCell ⟨B + 1, 1, none⟩ (.string T)).setCell ⟨B + 1, 0, none⟩ (.int .u64 v)).setCell ⟨B + 1, 1, none⟩ (.string T) = w5 at *
      refine bodyPost_ret (v := .agg #[.int .u64 v, .string T]) (by simp [results, Try.results39, go_sem, s0, s1]) rfl ?_
      exact ⟨T.data.toList, HEs.out, rfl, by rw [hB]; exact FO.out⟩
end Go.Proofs.Ytnjklhmnkjejfaa
