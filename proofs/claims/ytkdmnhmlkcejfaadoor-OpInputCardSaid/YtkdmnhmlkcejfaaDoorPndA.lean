/-
  Who must answer: the contracts of Of, Got, Left, Done.
-/
import Derived.Test.YtkdmnhmlkcejfaaDoorDecD
import Derived.Test.YtkdmnhmlkcejfaaDoorEq
import Derived.Test.YtkdmnhmlkcejfaaDoorMask
import Derived.WalkSpells
import Derived.WalkLawsBesides
import Derived.BigQuiet
import Derived.BigRegion
import Derived.Deep.QuietTactic
import Derived.Deep.RegionWith
import Derived.Deep.RegionHeld3
import Derived.StillTailTactics
import Derived.Deep.DeepCutAuto
import Derived.Handy
namespace Go.Proofs.YtkdmnhmlkcejfaaDoor
open Go.RowKit
set_option linter.unusedVariables false

theorem pnode_any (n : Int) (w : World) : Calls Tryd.prog 83 #[.int .i64 n] w fun v w' => v = .returned (.bool (decide (0 ≤ n ∧ n < 5))) ∧ w = w' := by
  go_enter Tryd.func83, Tryd.ntmps83
  go_wp2
  all_goals go_ret
  all_goals refine ⟨ret_bool ?_, rfl⟩
  all_goals (apply Bool.eq_iff_iff.mpr; simp; try omega)
theorem pkey : Tryd.prog.keyTypeAt 4 67 = true := by kernel_rfl
theorem pend_eq (a b c d e a' b' c' d' e' : Bool) (w : World) :
    (binOp .eql 67 (.agg #[.bool a, .bool b, .bool c, .bool d, .bool e]) (.agg #[.bool a', .bool b', .bool c', .bool d', .bool e'])).run Tryd.prog w = .ok (.bool (a == a' && b == b' && c == c' && d == d' && e == e')) w ∧
    (binOp .neq 67 (.agg #[.bool a, .bool b, .bool c, .bool d, .bool e]) (.agg #[.bool a', .bool b', .bool c', .bool d', .bool e'])).run Tryd.prog w = .ok (.bool (!(a == a' && b == b' && c == c' && d == d' && e == e'))) w := by
  refine eq_deep (m := 4) (D := 4) (D' := 4) pkey (by decide) (lx := [.bool a, .bool b, .bool c, .bool d, .bool e]) (ly := [.bool a', .bool b', .bool c', .bool d', .bool e']) (by kernel_rfl) (by kernel_rfl) (by kernel_rfl) (by kernel_rfl) _ ?_ w
  simp [and_assoc]
theorem pguard : Tryd.prog.eqGuardType Tryd.prog.depth 67 = false := by kernel_rfl
set_option maxHeartbeats 1600000 in
theorem got0 (a b c d e : Bool) (w : World) : Calls Tryd.prog 56 #[.agg #[.bool a, .bool b, .bool c, .bool d, .bool e], .int .i64 0] w fun v w' =>
    v = .returned (.tuple #[.agg #[.bool false, .bool b, .bool c, .bool d, .bool e], .bool a]) ∧ Below w.heap.size w w' := by
  have hq : ∀ w, _ := fun w => (pend_eq false b c d e a b c d e w).2
  have hg := pguard
  simp at hq
  go_enter Tryd.func56, Tryd.ntmps56
  go_wp2_with fail
  refine Calls.mono (pnode_any 0 _) ?_
  rintro v w1 ⟨rfl, rfl⟩
  go_wp2_with fail
  go_region
  go_wp2_with fail
  go_returns
  exact ⟨rfl, by go_grown⟩
set_option maxHeartbeats 1600000 in
theorem got1 (a b c d e : Bool) (w : World) : Calls Tryd.prog 56 #[.agg #[.bool a, .bool b, .bool c, .bool d, .bool e], .int .i64 1] w fun v w' =>
    v = .returned (.tuple #[.agg #[.bool a, .bool false, .bool c, .bool d, .bool e], .bool b]) ∧ Below w.heap.size w w' := by
  have hq : ∀ w, _ := fun w => (pend_eq a false c d e a b c d e w).2
  have hg := pguard
  simp at hq
  go_enter Tryd.func56, Tryd.ntmps56
  go_wp2_with fail
  refine Calls.mono (pnode_any 1 _) ?_
  rintro v w1 ⟨rfl, rfl⟩
  go_wp2_with fail
  go_region
  go_wp2_with fail
  go_returns
  exact ⟨rfl, by go_grown⟩
set_option maxHeartbeats 1600000 in
theorem got2 (a b c d e : Bool) (w : World) : Calls Tryd.prog 56 #[.agg #[.bool a, .bool b, .bool c, .bool d, .bool e], .int .i64 2] w fun v w' =>
    v = .returned (.tuple #[.agg #[.bool a, .bool b, .bool false, .bool d, .bool e], .bool c]) ∧ Below w.heap.size w w' := by
  have hq : ∀ w, _ := fun w => (pend_eq a b false d e a b c d e w).2
  have hg := pguard
  simp at hq
  go_enter Tryd.func56, Tryd.ntmps56
  go_wp2_with fail
  refine Calls.mono (pnode_any 2 _) ?_
  rintro v w1 ⟨rfl, rfl⟩
  go_wp2_with fail
  go_region
  go_wp2_with fail
  go_returns
  exact ⟨rfl, by go_grown⟩
set_option maxHeartbeats 1600000 in
theorem got3 (a b c d e : Bool) (w : World) : Calls Tryd.prog 56 #[.agg #[.bool a, .bool b, .bool c, .bool d, .bool e], .int .i64 3] w fun v w' =>
    v = .returned (.tuple #[.agg #[.bool a, .bool b, .bool c, .bool false, .bool e], .bool d]) ∧ Below w.heap.size w w' := by
  have hq : ∀ w, _ := fun w => (pend_eq a b c false e a b c d e w).2
  have hg := pguard
  simp at hq
  go_enter Tryd.func56, Tryd.ntmps56
  go_wp2_with fail
  refine Calls.mono (pnode_any 3 _) ?_
  rintro v w1 ⟨rfl, rfl⟩
  go_wp2_with fail
  go_region
  go_wp2_with fail
  go_returns
  exact ⟨rfl, by go_grown⟩
set_option maxHeartbeats 1600000 in
theorem got4 (a b c d e : Bool) (w : World) : Calls Tryd.prog 56 #[.agg #[.bool a, .bool b, .bool c, .bool d, .bool e], .int .i64 4] w fun v w' =>
    v = .returned (.tuple #[.agg #[.bool a, .bool b, .bool c, .bool d, .bool false], .bool e]) ∧ Below w.heap.size w w' := by
  have hq : ∀ w, _ := fun w => (pend_eq a b c d false a b c d e w).2
  have hg := pguard
  simp at hq
  go_enter Tryd.func56, Tryd.ntmps56
  go_wp2_with fail
  refine Calls.mono (pnode_any 4 _) ?_
  rintro v w1 ⟨rfl, rfl⟩
  go_wp2_with fail
  go_region
  go_wp2_with fail
  go_returns
  exact ⟨rfl, by go_grown⟩
set_option maxHeartbeats 1600000 in
theorem got_no (a b c d e : Bool) (n : Int) (hn : ¬ (0 ≤ n ∧ n < 5)) (w : World) : Calls Tryd.prog 56 #[.agg #[.bool a, .bool b, .bool c, .bool d, .bool e], .int .i64 n] w fun v w' =>
    v = .returned (.tuple #[.agg #[.bool a, .bool b, .bool c, .bool d, .bool e], .bool false]) ∧ Below w.heap.size w w' := by
  have hq : ∀ w, _ := fun w => (pend_eq a b c d e a b c d e w).2
  have hg := pguard
  simp at hq
  have hc := fun w => pnode_any n w
  simp only [hn, decide_false] at hc
  clear hn
  go_enter Tryd.func56, Tryd.ntmps56
  go_wp2_with fail
  refine Calls.mono (hc _) ?_
  rintro v w1 ⟨rfl, rfl⟩
  go_wp2_with fail
  go_region
  go_wp2_with fail
  go_returns
  exact ⟨rfl, by go_grown⟩
theorem done_any (a b c d e : Bool) (w : World) : Calls Tryd.prog 58 #[.agg #[.bool a, .bool b, .bool c, .bool d, .bool e]] w fun v w' =>
    v = .returned (.bool (!(a || b || c || d || e))) ∧ Below w.heap.size w w' := by
  have hq : ∀ w, _ := fun w => (pend_eq a b c d e false false false false false w).1
  have hg := pguard
  simp at hq
  go_enter Tryd.func58, Tryd.ntmps58
  go_wp2_with fail
  go_returns
  exact ⟨by simp, by go_grown⟩
def OfRel (B : Nat) (l : List Int) (k : Nat) (w wr : World) : Prop :=
  wr.heap[B + 1]? = some (.cells #[.bool (decide (0 ∈ l.take k)), .bool (decide (1 ∈ l.take k)), .bool (decide (2 ∈ l.take k)), .bool (decide (3 ∈ l.take k)), .bool (decide (4 ∈ l.take k))] 67) ∧ wr.heap[B]? = some (.cells #[.bool false, .bool false, .bool false, .bool false, .bool false] 67) ∧ Below B w wr
theorem mem_snoc (l : List Int) (k : Nat) (hk : k < l.length) (i : Int) : decide (i ∈ l.take (k + 1)) = (decide (i ∈ l.take k) || decide (i = l.getD k 0)) := by
  have e : l.getD k 0 = l[k] := by simp [List.getD, hk]
  rw [List.take_succ_eq_append_getElem hk, e]
  simp only [List.mem_append, List.mem_singleton, Bool.decide_or]
set_option maxHeartbeats 1600000 in
theorem of_any (v : Value) (l : List Int) (w : World) (hv : SR w v 1 l.length (nCells l)) : Calls Tryd.prog 53 #[v] w fun e w' =>
    e = .returned (.agg #[.bool (decide (0 ∈ l)), .bool (decide (1 ∈ l)), .bool (decide (2 ∈ l)), .bool (decide (3 ∈ l)), .bool (decide (4 ∈ l))]) ∧ Below w.heap.size w w' := by
  obtain ⟨ad, cap, rfl, hlc, hcm⟩ := hv.form
  unfold maxLen at hcm
  have HV := Lib.hid hv
  clear hv
  go_enter Tryd.func53, Tryd.ntmps53
  go_wp2_with fail
  go_loopw [8] (fun i wr => ∃ k : Nat, k ≤ l.length ∧ i = .int .i64 k ∧ OfRel w.heap.size l k w wr) (fun i _ => l.length - (intOf i).toNat)
  case atStart => exact ⟨0, Nat.zero_le _, rfl, by simpa using (two_blocks _ _ _).2, (two_blocks _ _ _).1, by go_grown⟩
  case round =>
    obtain ⟨k, hk, rfl, hB, hA, hbel⟩ := hrel
    by_cases hlt : k < l.length
    · obtain ⟨b, off, rfl, hb, hcell⟩ := HV.out.int (by omega)
      have hc : wr.cell? ⟨b, off + k, none⟩ = some (.int .i64 (l.getD k 0)) := (hbel.cell (p := ⟨b, off + k, none⟩) hb).trans (hcell k hlt)
      have HS := Lib.hid (mem_snoc l k hlt)
      have HE := Lib.hid hbel
      have hsz := hbel.size
      clear hcell hbel
      generalize l.getD k 0 = n at *
      have HB := Lib.hid hB
      have HA := Lib.hid hA
      have hn : n = 0 ∨ n = 1 ∨ n = 2 ∨ n = 3 ∨ n = 4 ∨ ¬ (0 ≤ n ∧ n < 5) := by omega
      rcases hn with rfl | rfl | rfl | rfl | rfl | hn
      · have q : wr.cell? ⟨w.heap.size + 1, 0, none⟩ = some (.bool (decide (0 ∈ l.take k))) := by simp [World.cell?, hB]
        have f : wr.frozen? ⟨w.heap.size + 1, 0, none⟩ = false := by simp [World.frozen?, hB]
        generalize decide (0 ∈ l.take k) = was at q
        clear hB hA
        go_wp2_with fail
        refine Calls.mono (pnode_any 0 _) ?_
        rintro v w1 ⟨rfl, rfl⟩
        go_wp2_with fail
        go_roundw
        case rel =>
          refine ⟨k + 1, by omega, by go_num, ?_, (Below.heap_setCell _ _ _ _ (by simp)).trans HA.out, HE.out.setCell (by simp) _⟩
          rw [heap_set_self HB.out]
          simp [HS.out]
        case measure => simp [intOf]; omega
      · have q : wr.cell? ⟨w.heap.size + 1, 1, none⟩ = some (.bool (decide (1 ∈ l.take k))) := by simp [World.cell?, hB]
        have f : wr.frozen? ⟨w.heap.size + 1, 1, none⟩ = false := by simp [World.frozen?, hB]
        generalize decide (1 ∈ l.take k) = was at q
        clear hB hA
        go_wp2_with fail
        refine Calls.mono (pnode_any 1 _) ?_
        rintro v w1 ⟨rfl, rfl⟩
        go_wp2_with fail
        go_roundw
        case rel =>
          refine ⟨k + 1, by omega, by go_num, ?_, (Below.heap_setCell _ _ _ _ (by simp)).trans HA.out, HE.out.setCell (by simp) _⟩
          rw [heap_set_self HB.out]
          simp [HS.out]
        case measure => simp [intOf]; omega
      · have q : wr.cell? ⟨w.heap.size + 1, 2, none⟩ = some (.bool (decide (2 ∈ l.take k))) := by simp [World.cell?, hB]
        have f : wr.frozen? ⟨w.heap.size + 1, 2, none⟩ = false := by simp [World.frozen?, hB]
        generalize decide (2 ∈ l.take k) = was at q
        clear hB hA
        go_wp2_with fail
        refine Calls.mono (pnode_any 2 _) ?_
        rintro v w1 ⟨rfl, rfl⟩
        go_wp2_with fail
        go_roundw
        case rel =>
          refine ⟨k + 1, by omega, by go_num, ?_, (Below.heap_setCell _ _ _ _ (by simp)).trans HA.out, HE.out.setCell (by simp) _⟩
          rw [heap_set_self HB.out]
          simp [HS.out]
        case measure => simp [intOf]; omega
      · have q : wr.cell? ⟨w.heap.size + 1, 3, none⟩ = some (.bool (decide (3 ∈ l.take k))) := by simp [World.cell?, hB]
        have f : wr.frozen? ⟨w.heap.size + 1, 3, none⟩ = false := by simp [World.frozen?, hB]
        generalize decide (3 ∈ l.take k) = was at q
        clear hB hA
        go_wp2_with fail
        refine Calls.mono (pnode_any 3 _) ?_
        rintro v w1 ⟨rfl, rfl⟩
        go_wp2_with fail
        go_roundw
        case rel =>
          refine ⟨k + 1, by omega, by go_num, ?_, (Below.heap_setCell _ _ _ _ (by simp)).trans HA.out, HE.out.setCell (by simp) _⟩
          rw [heap_set_self HB.out]
          simp [HS.out]
        case measure => simp [intOf]; omega
      · have q : wr.cell? ⟨w.heap.size + 1, 4, none⟩ = some (.bool (decide (4 ∈ l.take k))) := by simp [World.cell?, hB]
        have f : wr.frozen? ⟨w.heap.size + 1, 4, none⟩ = false := by simp [World.frozen?, hB]
        generalize decide (4 ∈ l.take k) = was at q
        clear hB hA
        go_wp2_with fail
        refine Calls.mono (pnode_any 4 _) ?_
        rintro v w1 ⟨rfl, rfl⟩
        go_wp2_with fail
        go_roundw
        case rel =>
          refine ⟨k + 1, by omega, by go_num, ?_, (Below.heap_setCell _ _ _ _ (by simp)).trans HA.out, HE.out.setCell (by simp) _⟩
          rw [heap_set_self HB.out]
          simp [HS.out]
        case measure => simp [intOf]; omega
      · have hd := fun w => pnode_any n w
        simp only [hn, decide_false] at hd
        have h0 : ¬ (0 = n) ∧ ¬ (1 = n) ∧ ¬ (2 = n) ∧ ¬ (3 = n) ∧ ¬ (4 = n) := by omega
        have H0 := Lib.hid h0
        clear hB hA hn h0
        go_wp2_with fail
        refine Calls.mono (hd _) ?_
        rintro v w1 ⟨rfl, rfl⟩
        go_wp2_with fail
        go_roundw
        case rel =>
          refine ⟨k + 1, by omega, by go_num, ?_, HA.out, HE.out⟩
          rw [HB.out]
          simp [HS.out, H0.out]
        case measure => simp [intOf]; omega
    · obtain rfl : k = l.length := by omega
      rw [List.take_length] at hB
      clear hlt
      have b0 : ∃ b : Bool, decide (0 ∈ l) = b := ⟨_, rfl⟩
      have b1 : ∃ b : Bool, decide (1 ∈ l) = b := ⟨_, rfl⟩
      have b2 : ∃ b : Bool, decide (2 ∈ l) = b := ⟨_, rfl⟩
      have b3 : ∃ b : Bool, decide (3 ∈ l) = b := ⟨_, rfl⟩
      have b4 : ∃ b : Bool, decide (4 ∈ l) = b := ⟨_, rfl⟩
      obtain ⟨c0, e0⟩ := b0
      obtain ⟨c1, e1⟩ := b1
      obtain ⟨c2, e2⟩ := b2
      obtain ⟨c3, e3⟩ := b3
      obtain ⟨c4, e4⟩ := b4
      rw [e0, e1, e2, e3, e4] at hB
      have E := Lib.hid (And.intro e0 (And.intro e1 (And.intro e2 (And.intro e3 e4))))
      clear e0 e1 e2 e3 e4
      have q0 : wr.cell? ⟨w.heap.size + 1, 0, none⟩ = some (.bool c0) := by simp [World.cell?, hB]
      have q1 : wr.cell? ⟨w.heap.size + 1, 1, none⟩ = some (.bool c1) := by simp [World.cell?, hB]
      have q2 : wr.cell? ⟨w.heap.size + 1, 2, none⟩ = some (.bool c2) := by simp [World.cell?, hB]
      have q3 : wr.cell? ⟨w.heap.size + 1, 3, none⟩ = some (.bool c3) := by simp [World.cell?, hB]
      have q4 : wr.cell? ⟨w.heap.size + 1, 4, none⟩ = some (.bool c4) := by simp [World.cell?, hB]
      have r0 : wr.cell? ⟨w.heap.size, 0, none⟩ = some (.bool false) := by simp [World.cell?, hA]
      have r1 : wr.cell? ⟨w.heap.size, 1, none⟩ = some (.bool false) := by simp [World.cell?, hA]
      have r2 : wr.cell? ⟨w.heap.size, 2, none⟩ = some (.bool false) := by simp [World.cell?, hA]
      have r3 : wr.cell? ⟨w.heap.size, 3, none⟩ = some (.bool false) := by simp [World.cell?, hA]
      have r4 : wr.cell? ⟨w.heap.size, 4, none⟩ = some (.bool false) := by simp [World.cell?, hA]
      have f0 : ∀ j, wr.frozen? ⟨w.heap.size, j, none⟩ = false := fun j => by simp [World.frozen?, hA]
      have fin : (((((wr.setCell ⟨w.heap.size, 0, none⟩ (.bool c0)).setCell ⟨w.heap.size, 1, none⟩ (.bool c1)).setCell ⟨w.heap.size, 2, none⟩ (.bool c2)).setCell ⟨w.heap.size, 3, none⟩ (.bool c3)).setCell ⟨w.heap.size, 4, none⟩ (.bool c4)).heap[w.heap.size]? = some (.cells #[.bool c0, .bool c1, .bool c2, .bool c3, .bool c4] 67) := heap_set_self (heap_set_self (heap_set_self (heap_set_self (heap_set_self hA 0 _) 1 _) 2 _) 3 _) 4 _
      have fin2 : Below w.heap.size w (((((wr.setCell ⟨w.heap.size, 0, none⟩ (.bool c0)).setCell ⟨w.heap.size, 1, none⟩ (.bool c1)).setCell ⟨w.heap.size, 2, none⟩ (.bool c2)).setCell ⟨w.heap.size, 3, none⟩ (.bool c3)).setCell ⟨w.heap.size, 4, none⟩ (.bool c4)) := ((((hbel.setCell (by simp) _).setCell (by simp) _).setCell (by simp) _).setCell (by simp) _).setCell (by simp) _
      have FI := Lib.hid fin
      have FB := Lib.hid fin2
      clear hA hB HV hbel fin fin2
      go_wp2_with fail
      generalize (((((wr.setCell ⟨w.heap.size, 0, none⟩ (.bool c0)).setCell ⟨w.heap.size, 1, none⟩ (.bool c1)).setCell ⟨w.heap.size, 2, none⟩ (.bool c2)).setCell ⟨w.heap.size, 3, none⟩ (.bool c3)).setCell ⟨w.heap.size, 4, none⟩ (.bool c4)) = wf at *
      have fi := FI.out
      have q0 : wf.cell? ⟨w.heap.size, 0, none⟩ = some (.bool c0) := by simp [World.cell?, fi]
      have q1 : wf.cell? ⟨w.heap.size, 1, none⟩ = some (.bool c1) := by simp [World.cell?, fi]
      have q2 : wf.cell? ⟨w.heap.size, 2, none⟩ = some (.bool c2) := by simp [World.cell?, fi]
      have q3 : wf.cell? ⟨w.heap.size, 3, none⟩ = some (.bool c3) := by simp [World.cell?, fi]
      have q4 : wf.cell? ⟨w.heap.size, 4, none⟩ = some (.bool c4) := by simp [World.cell?, fi]
      clear fi
      refine bodyPost_ret (v := .agg #[.bool c0, .bool c1, .bool c2, .bool c3, .bool c4]) (by simp [results, Tryd.results53, go_sem, q0, q1, q2, q3, q4]) rfl ?_
      obtain ⟨e0, e1, e2, e3, e4⟩ := E.out
      rw [e0, e1, e2, e3, e4]
      exact ⟨rfl, FB.out⟩
end Go.Proofs.YtkdmnhmlkcejfaaDoor
