/-
  A new arc; a number that is used for the first time, where there is room.
-/
import Derived.Test.YtadejhlljdcocaaArcB
import Derived.BigQuiet
import Derived.Deep.QuietTactic
namespace Go.Proofs.Ytadejhlljdcocaa
open Go.RowKit
set_option linter.unusedVariables false
set_option linter.unusedSimpArgs false

theorem arc_new (w : World) (R : Int) : ArcAt (w.alloc (.cells (arcC R 0 (fun _ => .slice none 0 0)) 147)) w.heap.size w.heap.size R 0 (fun _ => .slice none 0 0) (fun _ => []) :=
  ⟨Nat.le_refl _, heap_alloc_self _ _, fun _ _ => RowAt.nil _ _, fun _ _ _ _ _ _ e => by cases e⟩
theorem anewA0 (w : World) : Calls Try.prog 29 #[.int .i64 0] w fun e w' => e = .returned (.pointer (some ⟨w.heap.size, 0, none⟩)) ∧ w' = w.alloc (.cells (arcC 0 0 (fun _ => .slice none 0 0)) 147) := by
  go_enter Try.func29, Try.ntmps29
  go_wp2_with fail
  go_ret
  exact ⟨rfl, rfl⟩
theorem anewA2 (w : World) : Calls Try.prog 29 #[.int .i64 2] w fun e w' => e = .returned (.pointer (some ⟨w.heap.size, 0, none⟩)) ∧ w' = w.alloc (.cells (arcC 2 0 (fun _ => .slice none 0 0)) 147) := by
  go_enter Try.func29, Try.ntmps29
  go_wp2_with fail
  go_ret
  exact ⟨rfl, rfl⟩
theorem ArcAt.drewN {w : World} {N a : Nat} {R W : Int} {V : Nat → Value} {L : Nat → List Int} (h : ArcAt w N a R W V L) (q : Nat) : ArcAt (w.drewN q) N a R W V L := ⟨h.low, h.obj, fun i hi => (h.row i hi).kept fun _ _ => rfl, h.dis⟩
set_option maxHeartbeats 1600000 in
theorem acomes_room (w : World) (N a : Nat) (R W : Int) (V : Nat → Value) (L : Nat → List Int) (h : ArcAt w N a R W V L) (hR : R ≤ 64) (hs : ((L 0).length : Int) + (L 1).length + (L 2).length + (L 3).length < R) :
    Calls Try.prog 88 #[.pointer (some ⟨a, 0, none⟩)] w fun e w' => e = .returned (.tuple #[.int .i64 0, .bool false]) ∧ ∃ q, w' = w.drewN q := by
  have c0 := amany0 w N a R W V L h
  have c1 := amany1 w N a R W V L h
  have c2 := amany2 w N a R W V L h
  have c3 := amany3 w N a R W V L h
  obtain ⟨d0, d1⟩ := h.rooms
  clear h
  generalize (L 0).length = n0 at *
  generalize (L 1).length = n1 at *
  generalize (L 2).length = n2 at *
  generalize (L 3).length = n3 at *
  have e1 : ¬ R ≤ (n0 : Int) + n2 := by omega
  have e1' : decide (R ≤ (n0 : Int) + n2) = false := decide_eq_false e1
  have e2 : ¬ 2 * R ≤ (n0 : Int) + n2 + n1 + n3 := by omega
  have e3 : ¬ R ≤ (n0 : Int) + n2 + n1 + n3 := by omega
  go_enter Try.func88, Try.ntmps88
  go_wp2_with fail
  refine Calls.mono c0 ?_
  rintro e w1 ⟨rfl, rfl⟩
  go_wp2_with fail
  refine Calls.mono c2 ?_
  rintro e w1 ⟨rfl, rfl⟩
  go_wp2_with fail
  refine Calls.mono c1 ?_
  rintro e w1 ⟨rfl, rfl⟩
  go_wp2_with fail
  refine Calls.mono c3 ?_
  rintro e w1 ⟨rfl, rfl⟩
  go_upto_region 3 with fail
  go_quiet (fail)
  have d0' : (w.drewN nq).cell? ⟨a, 0, none⟩ = some (.int .i64 R) := d0
  go_wp2_with fail
  go_returns
  exact ⟨rfl, _, rfl⟩
set_option maxHeartbeats 1600000 in
theorem ause_new (n : Int) (w : World) (N a : Nat) (R W : Int) (V : Nat → Value) (L : Nat → List Int) (h : ArcAt w N a R W V L) (hR0 : 0 < R) (hR : R ≤ 64) (hs : ((L 0).length : Int) + (L 1).length + (L 2).length + (L 3).length < R) (hn : ∀ i, i < 4 → (L i).contains n = false) :
    Calls Try.prog 31 #[.pointer (some ⟨a, 0, none⟩), .int .i64 n] w fun e w' => e = .returned (.tuple #[.int .i64 0, .bool false]) ∧ ∃ V', ArcAt w' N a R W V' (upd L 0 (n :: L 0)) ∧ ArcKept w w' N a V V' := by
  obtain ⟨d0, d1⟩ := h.rooms
  have ca := ahas n w N a R W V L h
  rw [hn 0 (by decide), hn 1 (by decide)] at ca
  have c2 := ohasA (L 2) n w N a _ _ _ _ (h.ord 2 (by decide))
  have c3 := ohasA (L 3) n w N a _ _ _ _ (h.ord 3 (by decide))
  rw [hn 2 (by decide)] at c2
  rw [hn 3 (by decide)] at c3
  have cc := acomes_room w N a R W V L h hR hs
  have hR2 : ¬ R = 0 := by omega
  have HH := Lib.hid h
  have HN := Lib.hid (hn 0 (by decide))
  have HS := Lib.hid hs
  clear h hn hs
  go_enter Try.func31, Try.ntmps31
  go_wp2_with fail
  refine Calls.mono ca ?_
  rintro e w1 ⟨rfl, rfl⟩
  go_wp2_with fail
  refine Calls.mono c2 ?_
  rintro e w1 ⟨rfl, rfl⟩
  go_wp2_with fail
  refine Calls.mono c3 ?_
  rintro e w1 ⟨rfl, rfl⟩
  go_wp2_with fail
  refine Calls.mono cc ?_
  rintro e w1 ⟨rfl, q, rfl⟩
  have hq := HH.out.drewN q
  have cu := ouseA (L 0) n (w.drewN q) N a _ _ _ _ (hq.ord 0 (by decide)) (by have := HS.out; omega)
  have HQ := Lib.hid hq
  clear hq cc c3 c2 ca d0 d1
  go_wp2_with fail
  refine Calls.mono cu ?_
  rintro e w2 ⟨rfl, v0, ho, hk⟩
  obtain ⟨hA, hK⟩ := HQ.out.step 0 (by decide) ho hk
  clear ho hk cu
  go_wp2_with fail
  go_returns
  refine ⟨rfl, _, by rw [← List.erase_of_not_mem (l := L 0) (a := n) (by have := HN.out; simpa using this)]; rw [List.erase_of_not_mem (l := L 0) (a := n) (by have := HN.out; simpa using this)] at hA ⊢; exact hA, (ArcKept.of_below (below_drewN' (Below.refl _ _) q) HH.out.le).trans hK⟩
end Go.Proofs.Ytadejhlljdcocaa
