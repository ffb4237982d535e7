/-
  Several texts, laid together.
-/
import Derived.Test.YtjaaddjbmimjoaaMh35
/-
  An epoch that works: tarnlaw12.awake.
-/

namespace Go.Proofs.Ytjaaddjbmimjoaa
open Go.RowKit
set_option linter.unusedVariables false
set_option linter.unusedSimpArgs false

def awS : DS := ⟨1, 1, 0, ⟨1, 5, 1, [], [0]⟩, ⟨1, 5, 1, [], [0]⟩⟩
def awR (n : Nat) : List RC := [⟨1, ⟨0, 5, 1, [], [0]⟩, none, 0, some ⟨n, 0, none⟩, 1⟩, ⟨2, ⟨1, 0, 0, [], []⟩, none, 0, none, 0⟩]
theorem aw_st (n : Nat) : stOf (awR n) 2 = awS := by
  have h1 : okK [] 0 = true := by decide
  have h2 : okK [0] 1 = true := by decide
  simp [h1, h2, stOf, awR, awS, doS, mayK, mayC, noneC, listsC, nodesB, prepS, DS.z, CF.z, sameC]
theorem awake_all (w w1 wz : World) (h : w1.heap[w.heap.size]? = some (.cells #[.int .i64 0] 3) ∧ w1.heap[w.heap.size + 1]? = some (.cells #[.int .i64 0, .int .i64 5, .int .i64 1, .slice none 0 0, .slice (some ⟨w.heap.size, 0, none⟩) 1 1] 24) ∧ Below w.heap.size w w1) (e : wz = w1.alloc (.cells #[.int .i64 1, .int .i64 0, .int .i64 5, .int .i64 1, .slice none 0 0, .slice (some ⟨w.heap.size, 0, none⟩) 1 1, .int .i64 2, .int .i64 1, .int .i64 0, .int .i64 0, .slice none 0 0, .slice none 0 0] 26)) :
    Calls Try.prog 62 #[.agg #[.int .i64 0, .int .i64 0, .int .i64 0, .int .i64 0, .slice none 0 0, .slice none 0 0, .int .i64 0, .int .i64 0, .int .i64 0, .slice none 0 0, .slice none 0 0, .int .i64 0, .int .i64 0], .slice (some ⟨w1.heap.size, 0, none⟩) 2 2] wz fun ev w' => ∃ b1 p1 b2 p2 b3 p3 b4 p4, ev = .returned (.agg #[.int .i64 1, .int .i64 1, .int .i64 5, .int .i64 1, .slice b1 0 p1, .slice b2 1 p2, .int .i64 1, .int .i64 5, .int .i64 1, .slice b3 0 p3, .slice b4 1 p4, .int .i64 1, .int .i64 0]) ∧ Below w.heap.size w w' := by
  subst e
  obtain ⟨hA, hC, hb⟩ := h
  have hM := heap_alloc_self w1 (.cells #[.int .i64 1, .int .i64 0, .int .i64 5, .int .i64 1, .slice none 0 0, .slice (some ⟨w.heap.size, 0, none⟩) 1 1, .int .i64 2, .int .i64 1, .int .i64 0, .int .i64 0, .slice none 0 0, .slice none 0 0] 26)
  have hA2 := alloc_far (o := .cells #[.int .i64 1, .int .i64 0, .int .i64 5, .int .i64 1, .slice none 0 0, .slice (some ⟨w.heap.size, 0, none⟩) 1 1, .int .i64 2, .int .i64 1, .int .i64 0, .int .i64 0, .slice none 0 0, .slice none 0 0] 26) hA
  have hba : Below w1.heap.size w1 (w1.alloc (.cells #[.int .i64 1, .int .i64 0, .int .i64 5, .int .i64 1, .slice none 0 0, .slice (some ⟨w.heap.size, 0, none⟩) 1 1, .int .i64 2, .int .i64 1, .int .i64 0, .int .i64 0, .slice none 0 0, .slice none 0 0] 26)) := (Below.refl _ _).alloc (Nat.le_refl _) _
  have hbb := hb.trans (hba.mono hb.size)
  generalize w1.alloc (.cells #[.int .i64 1, .int .i64 0, .int .i64 5, .int .i64 1, .slice none 0 0, .slice (some ⟨w.heap.size, 0, none⟩) 1 1, .int .i64 2, .int .i64 1, .int .i64 0, .int .i64 0, .slice none 0 0, .slice none 0 0] 26) = w2 at *
  refine (dall (awR w.heap.size) _ w2 ⟨some ⟨w1.heap.size, 0, none⟩, 2, rfl, by simp [awR], by decide, .inr ⟨w1.heap.size, 0, rfl, lt_heap hM, ?_⟩⟩ ?_).mono ?_
  · intro j x hj k u hk
    match j, hj with
    | 0, hj =>
      simp only [awR, List.getElem?_cons_zero, Option.some.injEq] at hj
      subst hj
      match k, hk with
      | 0, hk | 1, hk | 2, hk | 3, hk | 4, hk | 5, hk =>
        simp [RC.cells] at hk
        subst hk
        simp [World.cell?, hM]
      | n + 6, hk => simp [RC.cells] at hk
    | 1, hj =>
      simp only [awR, List.getElem?_cons_succ, List.getElem?_cons_zero, Option.some.injEq] at hj
      subst hj
      match k, hk with
      | 0, hk | 1, hk | 2, hk | 3, hk | 4, hk | 5, hk =>
        simp [RC.cells] at hk
        subst hk
        simp [World.cell?, hM]
      | n + 6, hk => simp [RC.cells] at hk
    | n + 2, hj => simp [awR] at hj
  · intro r hr
    simp only [awR, List.mem_cons, List.not_mem_nil, or_false] at hr
    rcases hr with rfl | rfl
    · exact ⟨SR.nil_ _ _, sr_block (n := 1) (cs := #[.int .i64 0]) hA2 rfl (by decide)⟩
    · exact ⟨SR.nil_ _ _, SR.nil_ _ _⟩
  · rintro ev w' ⟨v', rfl, hv, hb2⟩
    rw [show (awR w.heap.size).length = 2 from rfl, aw_st] at hv
    obtain ⟨b1, p1, b2, p2, b3, p3, b4, p4, rfl, r1, r2, r3, r4⟩ := svb_form hv
    exact ⟨b1, p1, b2, p2, b3, p3, b4, p4, rfl, hbb.trans (hb2.mono hbb.size)⟩
set_option maxHeartbeats 1600000 in
set_option maxRecDepth 40000 in
theorem awake12 (w : World) : Calls Try.prog 18 #[] w fun ev w' => ev = .returned (.bool true) ∧ Below w.heap.size w w' := by
  go_enter Try.func18, Try.ntmps18
  go_upto_region 2 with fail
  obtain ⟨hA, hC⟩ := two_blocks w (.cells #[.int .i64 0] 3) (.cells #[.int .i64 0, .int .i64 5, .int .i64 1, .slice none 0 0, .slice (some ⟨w.heap.size, 0, none⟩) 1 1] 24)
  have hb : Below w.heap.size w ((w.alloc (.cells #[.int .i64 0] 3)).alloc (.cells #[.int .i64 0, .int .i64 5, .int .i64 1, .slice none 0 0, .slice (some ⟨w.heap.size, 0, none⟩) 1 1] 24)) := ((Below.refl _ _).alloc (Nat.le_refl _) _).alloc (by simp) _
  generalize (w.alloc (.cells #[.int .i64 0] 3)).alloc (.cells #[.int .i64 0, .int .i64 5, .int .i64 1, .slice none 0 0, .slice (some ⟨w.heap.size, 0, none⟩) 1 1] 24) = w1 at *
  have c0 := cell_atD hC 0 (v := .int .i64 0) rfl
  have c1 := cell_atD hC 1 (v := .int .i64 5) rfl
  have c2 := cell_atD hC 2 (v := .int .i64 1) rfl
  have c3 := cell_atD hC 3 (v := .slice none 0 0) rfl
  have c4 := cell_atD hC 4 (v := .slice (some ⟨w.heap.size, 0, none⟩) 1 1) rfl
  have HX := Lib.hid (And.intro hA (And.intro hC hb))
  clear hA hC hb
  have cA := fun (wz : World) (h : wz = w1.alloc (.cells #[.int .i64 1, .int .i64 0, .int .i64 5, .int .i64 1, .slice none 0 0, .slice (some ⟨w.heap.size, 0, none⟩) 1 1, .int .i64 2, .int .i64 1, .int .i64 0, .int .i64 0, .slice none 0 0, .slice none 0 0] 26)) => awake_all w w1 wz HX.out h
  go_wp2_with fail
  refine Calls.mono (cA _ rfl) ?_
  rintro ev w3 ⟨b1, p1, b2, p2, b3, p3, b4, p4, rfl, hb3⟩
  clear cA c0 c1 c2 c3 c4 HX
  have hM := heap_alloc_self w3 (.cells #[.int .i64 1, .int .i64 1, .int .i64 5, .int .i64 1, .slice b1 0 p1, .slice b2 1 p2, .int .i64 1, .int .i64 5, .int .i64 1, .slice b3 0 p3, .slice b4 1 p4, .int .i64 1, .int .i64 0] 42)
  have hb4 := hb3.alloc hb3.size (.cells #[.int .i64 1, .int .i64 1, .int .i64 5, .int .i64 1, .slice b1 0 p1, .slice b2 1 p2, .int .i64 1, .int .i64 5, .int .i64 1, .slice b3 0 p3, .slice b4 1 p4, .int .i64 1, .int .i64 0] 42)
  have HB := Lib.hid hb4
  have HM := Lib.hid hM
  clear hb3 hb4 hM
  go_upto_region 3 with fail
  generalize w3.alloc (.cells #[.int .i64 1, .int .i64 1, .int .i64 5, .int .i64 1, .slice b1 0 p1, .slice b2 1 p2, .int .i64 1, .int .i64 5, .int .i64 1, .slice b3 0 p3, .slice b4 1 p4, .int .i64 1, .int .i64 0] 42) = w4 at *
  have hM := HM.out
  have d0 := cell_atD hM 0 (v := .int .i64 1) rfl
  have d1 := cell_atD hM 1 (v := .int .i64 1) rfl
  have d2 := cell_atD hM 2 (v := .int .i64 5) rfl
  have d3 := cell_atD hM 3 (v := .int .i64 1) rfl
  have d4 := cell_atD hM 4 (v := .slice b1 0 p1) rfl
  have d5 := cell_atD hM 5 (v := .slice b2 1 p2) rfl
  have d6 := cell_atD hM 6 (v := .int .i64 1) rfl
  have d7 := cell_atD hM 7 (v := .int .i64 5) rfl
  have d8 := cell_atD hM 8 (v := .int .i64 1) rfl
  have d9 := cell_atD hM 9 (v := .slice b3 0 p3) rfl
  have d10 := cell_atD hM 10 (v := .slice b4 1 p4) rfl
  have d11 := cell_atD hM 11 (v := .int .i64 1) rfl
  have d12 := cell_atD hM 12 (v := .int .i64 0) rfl
  clear hM
  go_wp2_with fail
  go_ret
  exact ⟨ret_bool rfl, HB.out⟩
end Go.Proofs.Ytjaaddjbmimjoaa
