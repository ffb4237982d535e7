/-
  sched: a number that is drawn; Even, New; kind, gate.
-/
import Derived.Test.YtfgmeeponipjeaaSR
import Derived.Test.YtfgmeeponipjeaaHeld
import Derived.Test.YtfgmeeponipjeaaMask
namespace Go.Proofs.Ytfgmeeponipjeaa
open Go.RowKit
set_option linter.unusedVariables false
set_option linter.unusedSimpArgs false

/-- the next state; what is told of it below n -/
def nx (s : Int) : Int := IntKind.u64.wrap (IntKind.u64.wrap (s * 6364136223846793005) + 1442695040888963407)
def bl (s n : Int) : Int := (nx s / 8589934592).tmod n
def evenC (s : Int) : Array Value := #[.int .u64 s, .int .i64 12, .int .i64 2, .int .i64 4, .int .i64 60, .int .i64 4, .int .i64 4, .int .i64 1, .int .i64 30, .int .i64 40, .int .i64 2, .int .i64 6, .int .i64 1]
def zeroC (s : Int) : Array Value := #[.int .u64 s, .int .i64 0, .int .i64 0, .int .i64 0, .int .i64 0, .int .i64 0, .int .i64 0, .int .i64 0, .int .i64 0, .int .i64 0, .int .i64 0, .int .i64 0, .int .i64 0]
def SB (w : World) (g : Nat) (s : Int) : Prop := w.heap[g]? = some (.cells (evenC s) 109)
theorem nx_range (s : Int) : 0 ≤ nx s ∧ nx s < 18446744073709551616 := by
  unfold nx
  rw [IntKind.wrap_u64]
  omega
theorem bl_range (s : Int) {n : Int} (hn : 1 ≤ n) : 0 ≤ bl s n ∧ bl s n < n := by
  obtain ⟨h1, h2⟩ := nx_range s
  have h3 : 0 ≤ nx s / 8589934592 := by omega
  unfold bl
  rw [Int.tmod_eq_emod_of_nonneg h3]
  exact ⟨Int.emod_nonneg _ (by omega), Int.emod_lt_of_pos _ (by omega)⟩
theorem cellG {w : World} {b : Nat} {A : Array Value} {t : TypeId} (h : w.heap[b]? = some (.cells A t)) (i : Nat) {v : Value} (hv : A[i]? = some v) : w.cell? ⟨b, i, none⟩ = some v := by
  simp only [World.cell?, h]; simpa using hv
theorem frzG {w : World} {b : Nat} {A : Array Value} {t : TypeId} (h : w.heap[b]? = some (.cells A t)) (i : Nat) : w.frozen? ⟨b, i, none⟩ = false := by simp [World.frozen?, h]
theorem SB.next {w : World} {g : Nat} {s : Int} (h : SB w g s) (x : Int) : SB (w.setCell ⟨g, 0, none⟩ (.int .u64 x)) g x := heap_set_self h 0 _
theorem SB.only {w w' : World} {g b : Nat} {s : Int} (h : SB w g s) (ho : Only b w w') (hne : g ≠ b) : SB w' g s := (ho.block g (lt_heap h) hne).trans h
theorem SB.below {w w' : World} {g : Nat} {s : Int} (h : SB w g s) (hb : Below w.heap.size w w') : SB w' g s := below_at hb (lt_heap h) h
set_option maxHeartbeats 800000 in
theorem sbelow (g : Nat) (s n : Int) (w : World) (h : SB w g s) (hn : 1 ≤ n) (hn2 : n ≤ 1099511627776) : Calls Try.prog 62 #[.pointer (some ⟨g, 0, none⟩), .int .i64 n] w fun e w' => e = .returned (.int .i64 (bl s n)) ∧ w' = w.setCell ⟨g, 0, none⟩ (.int .u64 (nx s)) := by
  have c0 := cellG h 0 (v := .int .u64 s) rfl
  have f0 := frzG h 0
  have hn3 : ¬ n < 1 := by omega
  have hn4 : ¬ n = 0 := by omega
  obtain ⟨X, hX⟩ : ∃ X, nx s = X := ⟨_, rfl⟩
  obtain ⟨x1, x2⟩ := nx_range s
  have hr : IntKind.u64.wrap (IntKind.u64.wrap (s * 6364136223846793005) + 1442695040888963407) = X := hX
  rw [hX] at x1 x2
  have hb : bl s n = (X / 8589934592).tmod n := by unfold bl; rw [hX]
  have c1 := cellG (SB.next h X) 0 (v := .int .u64 X) rfl
  obtain ⟨Y, hY⟩ : ∃ Y, X / 8589934592 = Y := ⟨_, rfl⟩
  have hY1 : 0 ≤ Y := by omega
  have hY2 : Y ≤ 2147483648 := by omega
  have hY3 : X / 2 ^ 33 = Y := by rw [← hY]; rfl
  rw [hY] at hb
  rw [hb]
  have hw : IntKind.i64.wrap Y = Y := by rw [IntKind.wrap_i64]; omega
  have HX := Lib.hid hX
  have HYE := Lib.hid hY
  clear hX hb h hY
  go_enter Try.func62, Try.ntmps62
  go_wp2_with fail
  go_ret
  exact ⟨by first | rfl | (simp; rw [HYE.out, Int.tmod_eq_emod_of_nonneg hY1]), by rw [HX.out]⟩
theorem SB.bl {w w' : World} {g : Nat} {s : Int} (h : SB w g s) (hw : w' = w.setCell ⟨g, 0, none⟩ (.int .u64 (nx s))) : SB w' g (nx s) ∧ Only g w w' := by
  subst hw
  exact ⟨h.next _, (Only.refl g w).set 0 _⟩
theorem sgate (g : Nat) (s : Int) (w : World) (h : SB w g s) : Calls Try.prog 59 #[.pointer (some ⟨g, 0, none⟩)] w fun e w' => e = .returned (.int .i64 (5 + bl s 2)) ∧ w' = w.setCell ⟨g, 0, none⟩ (.int .u64 (nx s)) := by
  have c := sbelow g s 2 w h (by decide) (by decide)
  obtain ⟨b1, b2⟩ := bl_range s (show (1 : Int) ≤ 2 by decide)
  obtain ⟨B, hB⟩ : ∃ B, bl s 2 = B := ⟨_, rfl⟩
  rw [hB] at c b1 b2 ⊢
  clear hB h
  go_enter Try.func59, Try.ntmps59
  go_wp2_with fail
  refine Calls.mono c ?_
  rintro e w1 ⟨rfl, hw1⟩
  have HW := Lib.hid hw1
  clear hw1 c
  go_wp2_with fail
  go_ret
  exact ⟨by first | rfl | (go_num; done) | (exact ret_int (by rw [IntKind.wrap_i64]; omega)), HW.out⟩
theorem seven (w : World) : Calls Try.prog 25 #[] w fun e w' => e = .returned (.agg #[.int .i64 12, .int .i64 2, .int .i64 4, .int .i64 60, .int .i64 4, .int .i64 4, .int .i64 1, .int .i64 30, .int .i64 40, .int .i64 2, .int .i64 6, .int .i64 1]) ∧ Below w.heap.size w w' := by
  have hb0 := (Below.refl w.heap.size w).alloc (Nat.le_refl _) (.cells #[.int .i64 12, .int .i64 2, .int .i64 4, .int .i64 60, .int .i64 4, .int .i64 4, .int .i64 1, .int .i64 30, .int .i64 40, .int .i64 2, .int .i64 6, .int .i64 1] 66)
  have hy := heap_alloc_self w (.cells #[.int .i64 12, .int .i64 2, .int .i64 4, .int .i64 60, .int .i64 4, .int .i64 4, .int .i64 1, .int .i64 30, .int .i64 40, .int .i64 2, .int .i64 6, .int .i64 1] 66)
  have c0 := cellG hy 0 (v := .int .i64 12) rfl
  have c1 := cellG hy 1 (v := .int .i64 2) rfl
  have c2 := cellG hy 2 (v := .int .i64 4) rfl
  have c3 := cellG hy 3 (v := .int .i64 60) rfl
  have c4 := cellG hy 4 (v := .int .i64 4) rfl
  have c5 := cellG hy 5 (v := .int .i64 4) rfl
  have c6 := cellG hy 6 (v := .int .i64 1) rfl
  have c7 := cellG hy 7 (v := .int .i64 30) rfl
  have c8 := cellG hy 8 (v := .int .i64 40) rfl
  have c9 := cellG hy 9 (v := .int .i64 2) rfl
  have c10 := cellG hy 10 (v := .int .i64 6) rfl
  have c11 := cellG hy 11 (v := .int .i64 1) rfl
  go_enter Try.func25, Try.ntmps25
  go_wp2_with fail
  generalize w.alloc (.cells #[.int .i64 12, .int .i64 2, .int .i64 4, .int .i64 60, .int .i64 4, .int .i64 4, .int .i64 1, .int .i64 30, .int .i64 40, .int .i64 2, .int .i64 6, .int .i64 1] 66) = w1 at *
  refine bodyPost_ret (v := .agg #[.int .i64 12, .int .i64 2, .int .i64 4, .int .i64 60, .int .i64 4, .int .i64 4, .int .i64 1, .int .i64 30, .int .i64 40, .int .i64 2, .int .i64 6, .int .i64 1]) (by simp [results, Try.results25, go_sem, c0, c1, c2, c3, c4, c5, c6, c7, c8, c9, c10, c11]) rfl ?_
  exact ⟨rfl, hb0⟩
theorem setCell_idS {w : World} {b i : Nat} {A : Array Value} {t : TypeId} {v : Value} (h : w.heap[b]? = some (.cells A t)) (hv : A[i]? = some v) : w.setCell ⟨b, i, none⟩ v = w := by
  have hlt : i < A.size := (Array.getElem?_eq_some_iff.1 hv).1
  have hset : A.setIfInBounds i v = A := by
    apply Array.ext_getElem?
    intro j
    rw [Array.getElem?_setIfInBounds]
    split
    · next e => subst e; first | exact hv.symm | (rw [if_pos hlt]; exact hv.symm)
    · rfl
  have hb := lt_heap h
  have hh : (w.setCell ⟨b, i, none⟩ v).heap = w.heap := by
    apply Array.ext_getElem?
    intro k
    by_cases e : k = b
    · subst e
      rw [heap_set_self h i v, hset, h]
    · exact Below.heap_setCell _ _ _ _ e
  show { w with heap := (w.setCell ⟨b, i, none⟩ v).heap } = w
  rw [hh]
set_option maxHeartbeats 3200000 in
set_option maxRecDepth 100000 in
theorem snewE (s : Int) (w : World) : Calls Try.prog 24 #[.int .u64 s, .agg #[.int .i64 12, .int .i64 2, .int .i64 4, .int .i64 60, .int .i64 4, .int .i64 4, .int .i64 1, .int .i64 30, .int .i64 40, .int .i64 2, .int .i64 6, .int .i64 1]] w fun e w' => ∃ g, e = .returned (.pointer (some ⟨g, 0, none⟩)) ∧ w'.heap[g]? = some (.cells (evenC s) 109) ∧ w.heap.size ≤ g ∧ Below w.heap.size w w' := by
  have hb0 := (Below.refl w.heap.size w).alloc (Nat.le_refl _) (.cells #[.int .i64 12, .int .i64 2, .int .i64 4, .int .i64 60, .int .i64 4, .int .i64 4, .int .i64 1, .int .i64 30, .int .i64 40, .int .i64 2, .int .i64 6, .int .i64 1] 66)
  have hy := heap_alloc_self w (.cells #[.int .i64 12, .int .i64 2, .int .i64 4, .int .i64 60, .int .i64 4, .int .i64 4, .int .i64 1, .int .i64 30, .int .i64 40, .int .i64 2, .int .i64 6, .int .i64 1] 66)
  have c0 := cellG hy 0 (v := .int .i64 12) rfl
  have c1 := cellG hy 1 (v := .int .i64 2) rfl
  have c2 := cellG hy 2 (v := .int .i64 4) rfl
  have c3 := cellG hy 3 (v := .int .i64 60) rfl
  have c4 := cellG hy 4 (v := .int .i64 4) rfl
  have c5 := cellG hy 5 (v := .int .i64 4) rfl
  have c6 := cellG hy 6 (v := .int .i64 1) rfl
  have c7 := cellG hy 7 (v := .int .i64 30) rfl
  have c8 := cellG hy 8 (v := .int .i64 40) rfl
  have c9 := cellG hy 9 (v := .int .i64 2) rfl
  have c10 := cellG hy 10 (v := .int .i64 6) rfl
  have c11 := cellG hy 11 (v := .int .i64 1) rfl
  have x0 : ∀ w : World, (Instr.index 66 (.agg #[.int .i64 12, .int .i64 2, .int .i64 4, .int .i64 60, .int .i64 4, .int .i64 4, .int .i64 1, .int .i64 30, .int .i64 40, .int .i64 2, .int .i64 6, .int .i64 1]) (.int .i64 0)).run Try.prog w = .ok (.int .i64 12) w := fun _ => by kernel_rfl
  have x1 : ∀ w : World, (Instr.index 66 (.agg #[.int .i64 12, .int .i64 2, .int .i64 4, .int .i64 60, .int .i64 4, .int .i64 4, .int .i64 1, .int .i64 30, .int .i64 40, .int .i64 2, .int .i64 6, .int .i64 1]) (.int .i64 1)).run Try.prog w = .ok (.int .i64 2) w := fun _ => by kernel_rfl
  have x2 : ∀ w : World, (Instr.index 66 (.agg #[.int .i64 12, .int .i64 2, .int .i64 4, .int .i64 60, .int .i64 4, .int .i64 4, .int .i64 1, .int .i64 30, .int .i64 40, .int .i64 2, .int .i64 6, .int .i64 1]) (.int .i64 2)).run Try.prog w = .ok (.int .i64 4) w := fun _ => by kernel_rfl
  have x3 : ∀ w : World, (Instr.index 66 (.agg #[.int .i64 12, .int .i64 2, .int .i64 4, .int .i64 60, .int .i64 4, .int .i64 4, .int .i64 1, .int .i64 30, .int .i64 40, .int .i64 2, .int .i64 6, .int .i64 1]) (.int .i64 3)).run Try.prog w = .ok (.int .i64 60) w := fun _ => by kernel_rfl
  have x4 : ∀ w : World, (Instr.index 66 (.agg #[.int .i64 12, .int .i64 2, .int .i64 4, .int .i64 60, .int .i64 4, .int .i64 4, .int .i64 1, .int .i64 30, .int .i64 40, .int .i64 2, .int .i64 6, .int .i64 1]) (.int .i64 4)).run Try.prog w = .ok (.int .i64 4) w := fun _ => by kernel_rfl
  have x5 : ∀ w : World, (Instr.index 66 (.agg #[.int .i64 12, .int .i64 2, .int .i64 4, .int .i64 60, .int .i64 4, .int .i64 4, .int .i64 1, .int .i64 30, .int .i64 40, .int .i64 2, .int .i64 6, .int .i64 1]) (.int .i64 5)).run Try.prog w = .ok (.int .i64 4) w := fun _ => by kernel_rfl
  have x6 : ∀ w : World, (Instr.index 66 (.agg #[.int .i64 12, .int .i64 2, .int .i64 4, .int .i64 60, .int .i64 4, .int .i64 4, .int .i64 1, .int .i64 30, .int .i64 40, .int .i64 2, .int .i64 6, .int .i64 1]) (.int .i64 6)).run Try.prog w = .ok (.int .i64 1) w := fun _ => by kernel_rfl
  have x7 : ∀ w : World, (Instr.index 66 (.agg #[.int .i64 12, .int .i64 2, .int .i64 4, .int .i64 60, .int .i64 4, .int .i64 4, .int .i64 1, .int .i64 30, .int .i64 40, .int .i64 2, .int .i64 6, .int .i64 1]) (.int .i64 7)).run Try.prog w = .ok (.int .i64 30) w := fun _ => by kernel_rfl
  have x8 : ∀ w : World, (Instr.index 66 (.agg #[.int .i64 12, .int .i64 2, .int .i64 4, .int .i64 60, .int .i64 4, .int .i64 4, .int .i64 1, .int .i64 30, .int .i64 40, .int .i64 2, .int .i64 6, .int .i64 1]) (.int .i64 8)).run Try.prog w = .ok (.int .i64 40) w := fun _ => by kernel_rfl
  have x9 : ∀ w : World, (Instr.index 66 (.agg #[.int .i64 12, .int .i64 2, .int .i64 4, .int .i64 60, .int .i64 4, .int .i64 4, .int .i64 1, .int .i64 30, .int .i64 40, .int .i64 2, .int .i64 6, .int .i64 1]) (.int .i64 9)).run Try.prog w = .ok (.int .i64 2) w := fun _ => by kernel_rfl
  have x10 : ∀ w : World, (Instr.index 66 (.agg #[.int .i64 12, .int .i64 2, .int .i64 4, .int .i64 60, .int .i64 4, .int .i64 4, .int .i64 1, .int .i64 30, .int .i64 40, .int .i64 2, .int .i64 6, .int .i64 1]) (.int .i64 10)).run Try.prog w = .ok (.int .i64 6) w := fun _ => by kernel_rfl
  have x11 : ∀ w : World, (Instr.index 66 (.agg #[.int .i64 12, .int .i64 2, .int .i64 4, .int .i64 60, .int .i64 4, .int .i64 4, .int .i64 1, .int .i64 30, .int .i64 40, .int .i64 2, .int .i64 6, .int .i64 1]) (.int .i64 11)).run Try.prog w = .ok (.int .i64 1) w := fun _ => by kernel_rfl
  have f0 := frzG hy 0
  have f1 := frzG hy 1
  have f2 := frzG hy 2
  have f3 := frzG hy 3
  have f4 := frzG hy 4
  have f5 := frzG hy 5
  have f6 := frzG hy 6
  have f7 := frzG hy 7
  have f8 := frzG hy 8
  have f9 := frzG hy 9
  have f10 := frzG hy 10
  have f11 := frzG hy 11
  go_enter Try.func24, Try.ntmps24
  go_upto_region 1 with fail
  generalize w.alloc (.cells #[.int .i64 12, .int .i64 2, .int .i64 4, .int .i64 60, .int .i64 4, .int .i64 4, .int .i64 1, .int .i64 30, .int .i64 40, .int .i64 2, .int .i64 6, .int .i64 1] 66) = w1 at *
  have HB := Lib.hid hb0
  have HY := Lib.hid hy
  clear hb0 hy
  go_wp2_with fail
  go_loopw [8] (fun iv wr => ∃ j : Int, iv = .int .i64 j ∧ Hid (0 ≤ j ∧ j ≤ 12 ∧ wr = w1)) (fun iv _ => 12 - (intOf iv).toNat)
  case atStart => exact ⟨0, rfl, Lib.hid ⟨by omega, by omega, rfl⟩⟩
  case round =>
    obtain ⟨j, rfl, hrl⟩ := hrel
    obtain ⟨hj0, hj, hwr⟩ := hrl.out
    clear hrl
    subst hwr
    have hj12 : j = 0 ∨ j = 1 ∨ j = 2 ∨ j = 3 ∨ j = 4 ∨ j = 5 ∨ j = 6 ∨ j = 7 ∨ j = 8 ∨ j = 9 ∨ j = 10 ∨ j = 11 ∨ j = 12 := by omega
    clear hj hj0
    rcases hj12 with rfl | rfl | rfl | rfl | rfl | rfl | rfl | rfl | rfl | rfl | rfl | rfl | rfl
    rotate_right 1
    · go_wp2_with fail
      go_ret
      exact ⟨_, rfl, heap_alloc_self _ _, HB.out.size, HB.out.alloc HB.out.size _⟩
    all_goals
      go_wp2_with fail
      exact ⟨⟨_, rfl, Lib.hid ⟨by decide, by decide, setCell_idS HY.out rfl⟩⟩, by decide⟩
set_option maxHeartbeats 3200000 in
set_option maxRecDepth 100000 in
theorem snewZ (s : Int) (w : World) : Calls Try.prog 24 #[.int .u64 s, .agg #[.int .i64 0, .int .i64 0, .int .i64 0, .int .i64 0, .int .i64 0, .int .i64 0, .int .i64 0, .int .i64 0, .int .i64 0, .int .i64 0, .int .i64 0, .int .i64 0]] w fun e w' => ∃ g, e = .returned (.pointer (some ⟨g, 0, none⟩)) ∧ w'.heap[g]? = some (.cells (zeroC s) 109) ∧ w.heap.size ≤ g ∧ Below w.heap.size w w' := by
  have hb0 := (Below.refl w.heap.size w).alloc (Nat.le_refl _) (.cells #[.int .i64 0, .int .i64 0, .int .i64 0, .int .i64 0, .int .i64 0, .int .i64 0, .int .i64 0, .int .i64 0, .int .i64 0, .int .i64 0, .int .i64 0, .int .i64 0] 66)
  have hy := heap_alloc_self w (.cells #[.int .i64 0, .int .i64 0, .int .i64 0, .int .i64 0, .int .i64 0, .int .i64 0, .int .i64 0, .int .i64 0, .int .i64 0, .int .i64 0, .int .i64 0, .int .i64 0] 66)
  have c0 := cellG hy 0 (v := .int .i64 0) rfl
  have c1 := cellG hy 1 (v := .int .i64 0) rfl
  have c2 := cellG hy 2 (v := .int .i64 0) rfl
  have c3 := cellG hy 3 (v := .int .i64 0) rfl
  have c4 := cellG hy 4 (v := .int .i64 0) rfl
  have c5 := cellG hy 5 (v := .int .i64 0) rfl
  have c6 := cellG hy 6 (v := .int .i64 0) rfl
  have c7 := cellG hy 7 (v := .int .i64 0) rfl
  have c8 := cellG hy 8 (v := .int .i64 0) rfl
  have c9 := cellG hy 9 (v := .int .i64 0) rfl
  have c10 := cellG hy 10 (v := .int .i64 0) rfl
  have c11 := cellG hy 11 (v := .int .i64 0) rfl
  have x0 : ∀ w : World, (Instr.index 66 (.agg #[.int .i64 0, .int .i64 0, .int .i64 0, .int .i64 0, .int .i64 0, .int .i64 0, .int .i64 0, .int .i64 0, .int .i64 0, .int .i64 0, .int .i64 0, .int .i64 0]) (.int .i64 0)).run Try.prog w = .ok (.int .i64 0) w := fun _ => by kernel_rfl
  have x1 : ∀ w : World, (Instr.index 66 (.agg #[.int .i64 0, .int .i64 0, .int .i64 0, .int .i64 0, .int .i64 0, .int .i64 0, .int .i64 0, .int .i64 0, .int .i64 0, .int .i64 0, .int .i64 0, .int .i64 0]) (.int .i64 1)).run Try.prog w = .ok (.int .i64 0) w := fun _ => by kernel_rfl
  have x2 : ∀ w : World, (Instr.index 66 (.agg #[.int .i64 0, .int .i64 0, .int .i64 0, .int .i64 0, .int .i64 0, .int .i64 0, .int .i64 0, .int .i64 0, .int .i64 0, .int .i64 0, .int .i64 0, .int .i64 0]) (.int .i64 2)).run Try.prog w = .ok (.int .i64 0) w := fun _ => by kernel_rfl
  have x3 : ∀ w : World, (Instr.index 66 (.agg #[.int .i64 0, .int .i64 0, .int .i64 0, .int .i64 0, .int .i64 0, .int .i64 0, .int .i64 0, .int .i64 0, .int .i64 0, .int .i64 0, .int .i64 0, .int .i64 0]) (.int .i64 3)).run Try.prog w = .ok (.int .i64 0) w := fun _ => by kernel_rfl
  have x4 : ∀ w : World, (Instr.index 66 (.agg #[.int .i64 0, .int .i64 0, .int .i64 0, .int .i64 0, .int .i64 0, .int .i64 0, .int .i64 0, .int .i64 0, .int .i64 0, .int .i64 0, .int .i64 0, .int .i64 0]) (.int .i64 4)).run Try.prog w = .ok (.int .i64 0) w := fun _ => by kernel_rfl
  have x5 : ∀ w : World, (Instr.index 66 (.agg #[.int .i64 0, .int .i64 0, .int .i64 0, .int .i64 0, .int .i64 0, .int .i64 0, .int .i64 0, .int .i64 0, .int .i64 0, .int .i64 0, .int .i64 0, .int .i64 0]) (.int .i64 5)).run Try.prog w = .ok (.int .i64 0) w := fun _ => by kernel_rfl
  have x6 : ∀ w : World, (Instr.index 66 (.agg #[.int .i64 0, .int .i64 0, .int .i64 0, .int .i64 0, .int .i64 0, .int .i64 0, .int .i64 0, .int .i64 0, .int .i64 0, .int .i64 0, .int .i64 0, .int .i64 0]) (.int .i64 6)).run Try.prog w = .ok (.int .i64 0) w := fun _ => by kernel_rfl
  have x7 : ∀ w : World, (Instr.index 66 (.agg #[.int .i64 0, .int .i64 0, .int .i64 0, .int .i64 0, .int .i64 0, .int .i64 0, .int .i64 0, .int .i64 0, .int .i64 0, .int .i64 0, .int .i64 0, .int .i64 0]) (.int .i64 7)).run Try.prog w = .ok (.int .i64 0) w := fun _ => by kernel_rfl
  have x8 : ∀ w : World, (Instr.index 66 (.agg #[.int .i64 0, .int .i64 0, .int .i64 0, .int .i64 0, .int .i64 0, .int .i64 0, .int .i64 0, .int .i64 0, .int .i64 0, .int .i64 0, .int .i64 0, .int .i64 0]) (.int .i64 8)).run Try.prog w = .ok (.int .i64 0) w := fun _ => by kernel_rfl
  have x9 : ∀ w : World, (Instr.index 66 (.agg #[.int .i64 0, .int .i64 0, .int .i64 0, .int .i64 0, .int .i64 0, .int .i64 0, .int .i64 0, .int .i64 0, .int .i64 0, .int .i64 0, .int .i64 0, .int .i64 0]) (.int .i64 9)).run Try.prog w = .ok (.int .i64 0) w := fun _ => by kernel_rfl
  have x10 : ∀ w : World, (Instr.index 66 (.agg #[.int .i64 0, .int .i64 0, .int .i64 0, .int .i64 0, .int .i64 0, .int .i64 0, .int .i64 0, .int .i64 0, .int .i64 0, .int .i64 0, .int .i64 0, .int .i64 0]) (.int .i64 10)).run Try.prog w = .ok (.int .i64 0) w := fun _ => by kernel_rfl
  have x11 : ∀ w : World, (Instr.index 66 (.agg #[.int .i64 0, .int .i64 0, .int .i64 0, .int .i64 0, .int .i64 0, .int .i64 0, .int .i64 0, .int .i64 0, .int .i64 0, .int .i64 0, .int .i64 0, .int .i64 0]) (.int .i64 11)).run Try.prog w = .ok (.int .i64 0) w := fun _ => by kernel_rfl
  have f0 := frzG hy 0
  have f1 := frzG hy 1
  have f2 := frzG hy 2
  have f3 := frzG hy 3
  have f4 := frzG hy 4
  have f5 := frzG hy 5
  have f6 := frzG hy 6
  have f7 := frzG hy 7
  have f8 := frzG hy 8
  have f9 := frzG hy 9
  have f10 := frzG hy 10
  have f11 := frzG hy 11
  go_enter Try.func24, Try.ntmps24
  go_upto_region 1 with fail
  generalize w.alloc (.cells #[.int .i64 0, .int .i64 0, .int .i64 0, .int .i64 0, .int .i64 0, .int .i64 0, .int .i64 0, .int .i64 0, .int .i64 0, .int .i64 0, .int .i64 0, .int .i64 0] 66) = w1 at *
  have HB := Lib.hid hb0
  have HY := Lib.hid hy
  clear hb0 hy
  go_wp2_with fail
  go_loopw [8] (fun iv wr => ∃ j : Int, iv = .int .i64 j ∧ Hid (0 ≤ j ∧ j ≤ 12 ∧ wr = w1)) (fun iv _ => 12 - (intOf iv).toNat)
  case atStart => exact ⟨0, rfl, Lib.hid ⟨by omega, by omega, rfl⟩⟩
  case round =>
    obtain ⟨j, rfl, hrl⟩ := hrel
    obtain ⟨hj0, hj, hwr⟩ := hrl.out
    clear hrl
    subst hwr
    have hj12 : j = 0 ∨ j = 1 ∨ j = 2 ∨ j = 3 ∨ j = 4 ∨ j = 5 ∨ j = 6 ∨ j = 7 ∨ j = 8 ∨ j = 9 ∨ j = 10 ∨ j = 11 ∨ j = 12 := by omega
    clear hj hj0
    rcases hj12 with rfl | rfl | rfl | rfl | rfl | rfl | rfl | rfl | rfl | rfl | rfl | rfl | rfl
    rotate_right 1
    · go_wp2_with fail
      go_ret
      exact ⟨_, rfl, heap_alloc_self _ _, HB.out.size, HB.out.alloc HB.out.size _⟩
    all_goals
      go_wp2_with fail
      exact ⟨⟨_, rfl, Lib.hid ⟨by decide, by decide, setCell_idS HY.out rfl⟩⟩, by decide⟩
end Go.Proofs.Ytfgmeeponipjeaa
