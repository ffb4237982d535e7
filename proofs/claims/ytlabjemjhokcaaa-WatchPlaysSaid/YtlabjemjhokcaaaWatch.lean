/-
  A watch: the contracts of New, Tick, Heard, Up, Quiet.
-/
import Derived.Test.YtlabjemjhokcaaaPendB
import Derived.IntWalk
namespace Go.Proofs.Ytlabjemjhokcaaa
open Go.RowKit
set_option linter.unusedVariables false

/-- the watch that lies in block g -/
def Wt (w : World) (g : Nat) (k q0 q1 q2 q3 q4 : Int) : Prop := w.heap[g]? = some (.cells #[.int .i64 k, .int .i64 q0, .int .i64 q1, .int .i64 q2, .int .i64 q3, .int .i64 q4] 118)
theorem Wt.out' {w : World} {g : Nat} {k q0 q1 q2 q3 q4 : Int} (h : Wt w g k q0 q1 q2 q3 q4) : w.heap[g]? = some (.cells #[.int .i64 k, .int .i64 q0, .int .i64 q1, .int .i64 q2, .int .i64 q3, .int .i64 q4] 118) := h
def clampK (n : Int) : Int := if n < 1 then 1 else if 1000 < n then 1000 else n
/-- one tick more of quiet -/
def tk (q : Int) : Int := if 1000 < q + 1 then 1000 else q + 1
theorem tk_bd {q : Int} (h : 0 ≤ q ∧ q ≤ 1000) : 0 ≤ tk q ∧ tk q ≤ 1000 := by unfold tk; split <;> omega
theorem new_any (n : Int) (w : World) : Calls Try.prog 54 #[.int .i64 n] w fun e w' =>
    e = .returned (.pointer (some ⟨w.heap.size, 0, none⟩)) ∧ w' = w.alloc (.cells #[.int .i64 (clampK n), .int .i64 0, .int .i64 0, .int .i64 0, .int .i64 0, .int .i64 0] 118) := by
  have hn : n < 1 ∨ (1 ≤ n ∧ n ≤ 1000) ∨ 1000 < n := by omega
  rcases hn with h | ⟨h1, h2⟩ | h
  · have hk : clampK n = 1 := by simp [clampK, h]
    rw [hk]
    clear hk
    go_enter Try.func54, Try.ntmps54
    go_wp2_with fail
    go_ret
    exact ⟨rfl, rfl⟩
  · have hk : clampK n = n := by unfold clampK; rw [if_neg (by omega), if_neg (by omega)]
    rw [hk]
    clear hk
    go_enter Try.func54, Try.ntmps54
    go_wp2_with fail
    go_ret
    exact ⟨rfl, rfl⟩
  · have hk : clampK n = 1000 := by unfold clampK; rw [if_neg (by omega), if_pos (by omega)]
    rw [hk]
    clear hk
    go_enter Try.func54, Try.ntmps54
    go_wp2_with fail
    go_ret
    exact ⟨rfl, rfl⟩
theorem tick_nil (w : World) : Calls Try.prog 55 #[.pointer none] w fun e w' => e = .returned (.tuple #[]) ∧ w = w' := by
  go_enter Try.func55, Try.ntmps55
  go_wp2_with fail
  refine bodyPost_ret (results_none rfl _ _ _) rfl ?_
  exact ⟨rfl, rfl⟩
theorem heard_nil (n : Int) (w : World) : Calls Try.prog 56 #[.pointer none, .int .i64 n] w fun e w' => e = .returned (.tuple #[]) ∧ w = w' := by
  go_enter Try.func56, Try.ntmps56
  go_wp2_with fail
  go_end0
  exact ⟨rfl, rfl⟩
def tickA (k q0 q1 q2 q3 q4 t0 t1 t2 t3 t4 : Int) : Nat → Array Value
  | 0 => #[.int .i64 k, .int .i64 q0, .int .i64 q1, .int .i64 q2, .int .i64 q3, .int .i64 q4]
  | 1 => #[.int .i64 k, .int .i64 t0, .int .i64 q1, .int .i64 q2, .int .i64 q3, .int .i64 q4]
  | 2 => #[.int .i64 k, .int .i64 t0, .int .i64 t1, .int .i64 q2, .int .i64 q3, .int .i64 q4]
  | 3 => #[.int .i64 k, .int .i64 t0, .int .i64 t1, .int .i64 t2, .int .i64 q3, .int .i64 q4]
  | 4 => #[.int .i64 k, .int .i64 t0, .int .i64 t1, .int .i64 t2, .int .i64 t3, .int .i64 q4]
  | _ => #[.int .i64 k, .int .i64 t0, .int .i64 t1, .int .i64 t2, .int .i64 t3, .int .i64 t4]
def TickRel (g : Nat) (A : Array Value) (w wr : World) : Prop := wr.heap[g]? = some (.cells A 118) ∧ Only g w wr
set_option maxRecDepth 20000 in
set_option maxHeartbeats 3200000 in
theorem tick_any (g : Nat) (k q0 q1 q2 q3 q4 : Int) (w : World) (h : Wt w g k q0 q1 q2 q3 q4) (b0 : 0 ≤ q0 ∧ q0 ≤ 1000) (b1 : 0 ≤ q1 ∧ q1 ≤ 1000) (b2 : 0 ≤ q2 ∧ q2 ≤ 1000) (b3 : 0 ≤ q3 ∧ q3 ≤ 1000) (b4 : 0 ≤ q4 ∧ q4 ≤ 1000) :
    Calls Try.prog 55 #[.pointer (some ⟨g, 0, none⟩)] w fun e w' => e = .returned (.tuple #[]) ∧ Wt w' g k (tk q0) (tk q1) (tk q2) (tk q3) (tk q4) ∧ Only g w w' := by
  have m0 : (if (1000 : Int) < q0 + 1 then (1000 : Int) else q0 + 1) = tk q0 := rfl
  have m1 : (if (1000 : Int) < q1 + 1 then (1000 : Int) else q1 + 1) = tk q1 := rfl
  have m2 : (if (1000 : Int) < q2 + 1 then (1000 : Int) else q2 + 1) = tk q2 := rfl
  have m3 : (if (1000 : Int) < q3 + 1 then (1000 : Int) else q3 + 1) = tk q3 := rfl
  have m4 : (if (1000 : Int) < q4 + 1 then (1000 : Int) else q4 + 1) = tk q4 := rfl
  have M := Lib.hid (And.intro m0 (And.intro m1 (And.intro m2 (And.intro m3 m4))))
  clear m0 m1 m2 m3 m4
  generalize tk q0 = t0 at *
  generalize tk q1 = t1 at *
  generalize tk q2 = t2 at *
  generalize tk q3 = t3 at *
  generalize tk q4 = t4 at *
  have H := Lib.hid h
  obtain ⟨l0, u0⟩ := b0
  obtain ⟨l1, u1⟩ := b1
  obtain ⟨l2, u2⟩ := b2
  obtain ⟨l3, u3⟩ := b3
  obtain ⟨l4, u4⟩ := b4
  clear h
  go_enter Try.func55, Try.ntmps55
  go_wp2_with fail
  go_loopw [5] (fun i wr => ∃ j : Nat, j ≤ 5 ∧ i = .int .i64 j ∧ TickRel g (tickA k q0 q1 q2 q3 q4 t0 t1 t2 t3 t4 j) w wr) (fun i _ => 5 - (intOf i).toNat)
  case atStart => exact ⟨0, by omega, rfl, H.out, Only.refl _ _⟩
  case round =>
    obtain ⟨j, hj, rfl, hw, ho⟩ := hrel
    have hj' : j = 0 ∨ j = 1 ∨ j = 2 ∨ j = 3 ∨ j = 4 ∨ j = 5 := by omega
    have HO := Lib.hid ho
    clear ho H
    rcases hj' with rfl | rfl | rfl | rfl | rfl | rfl
    · have HW := Lib.hid hw
      have c : wr.cell? ⟨g, 1, none⟩ = some (.int .i64 q0) := by simp [World.cell?, hw, tickA]
      have f : wr.frozen? ⟨g, 1, none⟩ = false := by simp [World.frozen?, hw]
      have e : (if (1000 : Int) < IntKind.i64.wrap (q0 + 1) then (1000 : Int) else IntKind.i64.wrap (q0 + 1)) = t0 := by
        rw [IntWalk.i64_in (q0 + 1) (by omega)]
        exact M.out.1
      have E := Lib.hid e
      clear hw e
      go_wp2_with fail
      go_still_tail 13, (by kernel_rfl)
      rw [E.out]
      change wpList _ _ _ _ _ wr.drew
      go_wp2_with fail
      go_roundw
      case rel => exact ⟨1, by omega, rfl, (heap_set_self HW.out 1 (.int .i64 t0)), (HO.out.set 1 _).drew⟩
      case measure => simp [intOf]
    · have HW := Lib.hid hw
      have c : wr.cell? ⟨g, 2, none⟩ = some (.int .i64 q1) := by simp [World.cell?, hw, tickA]
      have f : wr.frozen? ⟨g, 2, none⟩ = false := by simp [World.frozen?, hw]
      have e : (if (1000 : Int) < IntKind.i64.wrap (q1 + 1) then (1000 : Int) else IntKind.i64.wrap (q1 + 1)) = t1 := by
        rw [IntWalk.i64_in (q1 + 1) (by omega)]
        exact M.out.2.1
      have E := Lib.hid e
      clear hw e
      go_wp2_with fail
      go_still_tail 13, (by kernel_rfl)
      rw [E.out]
      change wpList _ _ _ _ _ wr.drew
      go_wp2_with fail
      go_roundw
      case rel => exact ⟨2, by omega, rfl, (heap_set_self HW.out 2 (.int .i64 t1)), (HO.out.set 2 _).drew⟩
      case measure => simp [intOf]
    · have HW := Lib.hid hw
      have c : wr.cell? ⟨g, 3, none⟩ = some (.int .i64 q2) := by simp [World.cell?, hw, tickA]
      have f : wr.frozen? ⟨g, 3, none⟩ = false := by simp [World.frozen?, hw]
      have e : (if (1000 : Int) < IntKind.i64.wrap (q2 + 1) then (1000 : Int) else IntKind.i64.wrap (q2 + 1)) = t2 := by
        rw [IntWalk.i64_in (q2 + 1) (by omega)]
        exact M.out.2.2.1
      have E := Lib.hid e
      clear hw e
      go_wp2_with fail
      go_still_tail 13, (by kernel_rfl)
      rw [E.out]
      change wpList _ _ _ _ _ wr.drew
      go_wp2_with fail
      go_roundw
      case rel => exact ⟨3, by omega, rfl, (heap_set_self HW.out 3 (.int .i64 t2)), (HO.out.set 3 _).drew⟩
      case measure => simp [intOf]
    · have HW := Lib.hid hw
      have c : wr.cell? ⟨g, 4, none⟩ = some (.int .i64 q3) := by simp [World.cell?, hw, tickA]
      have f : wr.frozen? ⟨g, 4, none⟩ = false := by simp [World.frozen?, hw]
      have e : (if (1000 : Int) < IntKind.i64.wrap (q3 + 1) then (1000 : Int) else IntKind.i64.wrap (q3 + 1)) = t3 := by
        rw [IntWalk.i64_in (q3 + 1) (by omega)]
        exact M.out.2.2.2.1
      have E := Lib.hid e
      clear hw e
      go_wp2_with fail
      go_still_tail 13, (by kernel_rfl)
      rw [E.out]
      change wpList _ _ _ _ _ wr.drew
      go_wp2_with fail
      go_roundw
      case rel => exact ⟨4, by omega, rfl, (heap_set_self HW.out 4 (.int .i64 t3)), (HO.out.set 4 _).drew⟩
      case measure => simp [intOf]
    · have HW := Lib.hid hw
      have c : wr.cell? ⟨g, 5, none⟩ = some (.int .i64 q4) := by simp [World.cell?, hw, tickA]
      have f : wr.frozen? ⟨g, 5, none⟩ = false := by simp [World.frozen?, hw]
      have e : (if (1000 : Int) < IntKind.i64.wrap (q4 + 1) then (1000 : Int) else IntKind.i64.wrap (q4 + 1)) = t4 := by
        rw [IntWalk.i64_in (q4 + 1) (by omega)]
        exact M.out.2.2.2.2
      have E := Lib.hid e
      clear hw e
      go_wp2_with fail
      go_still_tail 13, (by kernel_rfl)
      rw [E.out]
      change wpList _ _ _ _ _ wr.drew
      go_wp2_with fail
      go_roundw
      case rel => exact ⟨5, by omega, rfl, (heap_set_self HW.out 5 (.int .i64 t4)), (HO.out.set 5 _).drew⟩
      case measure => simp [intOf]
    · have HW := Lib.hid hw
      clear hw
      go_wp2_with fail
      go_end0
      exact ⟨rfl, HW.out, HO.out⟩
theorem heard0 (g : Nat) (k q0 q1 q2 q3 q4 : Int) (w : World) (h : Wt w g k q0 q1 q2 q3 q4) :
    Calls Try.prog 56 #[.pointer (some ⟨g, 0, none⟩), .int .i64 0] w fun e w' => e = .returned (.tuple #[]) ∧ Wt w' g k 0 q1 q2 q3 q4 ∧ Only g w w' := by
  have c : w.cell? ⟨g, 1, none⟩ = some (.int .i64 q0) := by simp [World.cell?, h.out']
  have f : w.frozen? ⟨g, 1, none⟩ = false := by simp [World.frozen?, h.out']
  have H := Lib.hid h
  clear h
  go_enter Try.func56, Try.ntmps56
  go_wp2_with fail
  go_end0
  exact ⟨rfl, heap_set_self H.out 1 (.int .i64 0), (Only.refl _ _).set 1 _⟩
theorem heard1 (g : Nat) (k q0 q1 q2 q3 q4 : Int) (w : World) (h : Wt w g k q0 q1 q2 q3 q4) :
    Calls Try.prog 56 #[.pointer (some ⟨g, 0, none⟩), .int .i64 1] w fun e w' => e = .returned (.tuple #[]) ∧ Wt w' g k q0 0 q2 q3 q4 ∧ Only g w w' := by
  have c : w.cell? ⟨g, 2, none⟩ = some (.int .i64 q1) := by simp [World.cell?, h.out']
  have f : w.frozen? ⟨g, 2, none⟩ = false := by simp [World.frozen?, h.out']
  have H := Lib.hid h
  clear h
  go_enter Try.func56, Try.ntmps56
  go_wp2_with fail
  go_end0
  exact ⟨rfl, heap_set_self H.out 2 (.int .i64 0), (Only.refl _ _).set 2 _⟩
theorem heard2 (g : Nat) (k q0 q1 q2 q3 q4 : Int) (w : World) (h : Wt w g k q0 q1 q2 q3 q4) :
    Calls Try.prog 56 #[.pointer (some ⟨g, 0, none⟩), .int .i64 2] w fun e w' => e = .returned (.tuple #[]) ∧ Wt w' g k q0 q1 0 q3 q4 ∧ Only g w w' := by
  have c : w.cell? ⟨g, 3, none⟩ = some (.int .i64 q2) := by simp [World.cell?, h.out']
  have f : w.frozen? ⟨g, 3, none⟩ = false := by simp [World.frozen?, h.out']
  have H := Lib.hid h
  clear h
  go_enter Try.func56, Try.ntmps56
  go_wp2_with fail
  go_end0
  exact ⟨rfl, heap_set_self H.out 3 (.int .i64 0), (Only.refl _ _).set 3 _⟩
theorem heard3 (g : Nat) (k q0 q1 q2 q3 q4 : Int) (w : World) (h : Wt w g k q0 q1 q2 q3 q4) :
    Calls Try.prog 56 #[.pointer (some ⟨g, 0, none⟩), .int .i64 3] w fun e w' => e = .returned (.tuple #[]) ∧ Wt w' g k q0 q1 q2 0 q4 ∧ Only g w w' := by
  have c : w.cell? ⟨g, 4, none⟩ = some (.int .i64 q3) := by simp [World.cell?, h.out']
  have f : w.frozen? ⟨g, 4, none⟩ = false := by simp [World.frozen?, h.out']
  have H := Lib.hid h
  clear h
  go_enter Try.func56, Try.ntmps56
  go_wp2_with fail
  go_end0
  exact ⟨rfl, heap_set_self H.out 4 (.int .i64 0), (Only.refl _ _).set 4 _⟩
theorem heard4 (g : Nat) (k q0 q1 q2 q3 q4 : Int) (w : World) (h : Wt w g k q0 q1 q2 q3 q4) :
    Calls Try.prog 56 #[.pointer (some ⟨g, 0, none⟩), .int .i64 4] w fun e w' => e = .returned (.tuple #[]) ∧ Wt w' g k q0 q1 q2 q3 0 ∧ Only g w w' := by
  have c : w.cell? ⟨g, 5, none⟩ = some (.int .i64 q4) := by simp [World.cell?, h.out']
  have f : w.frozen? ⟨g, 5, none⟩ = false := by simp [World.frozen?, h.out']
  have H := Lib.hid h
  clear h
  go_enter Try.func56, Try.ntmps56
  go_wp2_with fail
  go_end0
  exact ⟨rfl, heap_set_self H.out 5 (.int .i64 0), (Only.refl _ _).set 5 _⟩
theorem heard_no (g : Nat) (n : Int) (hn : n < 0 ∨ (0 ≤ n ∧ 5 ≤ n)) (w : World) :
    Calls Try.prog 56 #[.pointer (some ⟨g, 0, none⟩), .int .i64 n] w fun e w' => e = .returned (.tuple #[]) ∧ w = w' := by
  rcases hn with h | ⟨h, h2⟩
  all_goals
    go_enter Try.func56, Try.ntmps56
    go_wp2_with fail
    go_end0
    exact ⟨rfl, rfl⟩
end Go.Proofs.Ytlabjemjhokcaaa
