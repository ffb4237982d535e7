/-
  Several texts, laid together.
-/
import Derived.Test.YtjaaddjbmimjoaaMh30
import Derived.Laws.CopyRow
/-
  A state out of whatever bytes: decide.TakeState.
-/


namespace Go.Proofs.Ytjaaddjbmimjoaa
open Go.RowKit
set_option linter.unusedVariables false
set_option linter.unusedSimpArgs false

def STakeP (b : Nat) (w : World) (E : Int) (a n : CF) (s0 s1 : Int) (S : RS) (ev : Ending) (w' : World) : Prop :=
  ∃ a2 p2 a3 p3 a4 p4 a5 p5, ev = .returned (.agg #[.int .i64 E, .int .i64 a.e, .int .i64 a.b, .int .i64 a.k, .slice a2 a.M.length p2, .slice a3 a.C.length p3, .int .i64 n.e, .int .i64 n.b, .int .i64 n.k, .slice a4 n.M.length p4, .slice a5 n.C.length p5, .int .i64 s0, .int .i64 s1]) ∧ CFO a (w.heap.size + 1) w' (.slice a2 a.M.length p2) (.slice a3 a.C.length p3) ∧ CFO n (w.heap.size + 1) w' (.slice a4 n.M.length p4) (.slice a5 n.C.length p5) ∧ Src w' b S ∧ Only b w w'
theorem owns_keep {w w' : World} {base n size N : Nat} {e : TypeId} {v : Value} {xs : List Value} (h : w.ownsRow base e size v n xs) (hN : w.heap.size ≤ N) (hk : ∀ k, base ≤ k → k < N → w'.heap[k]? = w.heap[k]?) : w'.ownsRow base e size v n xs :=
  ⟨h.1, h.2.imp id fun ⟨g, cap, cur, e1, h1, h2, h3⟩ => ⟨g, cap, cur, e1, h1, (hk g h1 (Nat.lt_of_lt_of_le (lt_heap h2) hN)).trans h2, h3⟩⟩
theorem CFO.keep {c : CF} {base N : Nat} {w w' : World} {v1 v2 : Value} (h : CFO c base w v1 v2) (hN : w.heap.size ≤ N) (hk : ∀ k, base ≤ k → k < N → w'.heap[k]? = w.heap[k]?) : CFO c base w' v1 v2 := ⟨owns_keep h.1 hN hk, owns_keep h.2 hN hk⟩
/-- two places, copied over by at most two numbers -/
theorem copy_two {P : Program} (w : World) (X : Nat) (tt ty elem t : TypeId) (a : Option Addr) (n cap : Nat) (L : List Int) (hu : P.underlying tt = some (.slice elem)) (hs : (P.info? elem).map (·.size) = some 1)
    (hx : w.heap[X]? = some (.cells #[.int .i64 0, .int .i64 0] t)) (hL : L.length = n) (hn : n ≤ 2) (h : SR w (.slice a n cap) 1 n (nCells L)) :
    ∃ w', (Builtin.copy_ #[tt, tt] ty #[.slice (some ⟨X, 0, none⟩) 2 2, .slice a n cap]).run P w = .ok (.int .i64 n) w' ∧ Only X w w' ∧ (n = 2 → w'.heap[X]? = some (.cells #[.int .i64 (L.getD 0 0), .int .i64 (L.getD 1 0)] t)) := by
  obtain ⟨a', cap', e, h1, h2, h3, h4⟩ := h
  injection e with e1 e2 e3
  subst e1 e3
  rcases h4 with h4 | ⟨g, off, rfl, hg, hc⟩
  · subst h4
    refine ⟨w, ?_, Only.refl _ _, fun h => by omega⟩
    exact run_copy_none (P := P) w tt tt ty elem (some ⟨X, 0, none⟩) a 2 2 0 cap hu hs (by decide)
  · have hm : Nat.min n 2 = n := Nat.min_eq_left hn
    have hl : (nCells L).length = n := by rw [h3, Nat.mul_one]
    have hrun := run_copy_row (P := P) w tt tt ty elem X 0 2 2 ⟨g, off, none⟩ n cap #[.int .i64 0, .int .i64 0] t (nCells L) hu hs hx (by rw [hm]; exact hl) (fun j v hj => by
        have hadd : (⟨g, off, none⟩ : Addr).add j = ⟨g, off + j, none⟩ := by unfold Addr.add; split <;> simp_all
        rw [hadd]; exact hc j v hj) (by simp; omega) (fun v hv => by
        simp only [nCells, List.mem_map] at hv
        obtain ⟨x, -, rfl⟩ := hv
        rfl)
    rw [hl] at hrun
    refine ⟨_, hrun, (Only.refl X w).trans ⟨rfl, rfl, rfl, by simp [World.setRow], fun k hk hne => setRow_other w X k _ (by omega)⟩, ?_⟩
    intro h2'
    subst h2'
    match L, hL with
    | [x, y], _ => exact setRow_heap w X _ _ t _ hx
theorem two_newD (w : World) (o p : Obj) : ((w.alloc o).alloc p).heap[w.heap.size]? = some o ∧ ((w.alloc o).alloc p).heap[w.heap.size + 1]? = some p ∧ Below w.heap.size w ((w.alloc o).alloc p) ∧ ((w.alloc o).alloc p).heap.size = w.heap.size + 2 := by
  refine ⟨?_, ?_, ((Below.refl _ _).alloc (Nat.le_refl _) _).alloc (by simp) _, by simp⟩
  · have h := heap_alloc_self w o
    exact below_at ((Below.refl _ _).alloc (Nat.le_refl _) _) (lt_heap h) h
  · have h := heap_alloc_self (w.alloc o) p
    simpa using h
theorem sta_x (q : RS) (h : q.staL.length = 2) : q.staS = q.staS1 := by rw [RS.staS, if_pos h]
theorem sta_y (q : RS) (h : q.staL.length ≠ 2) : q.staS = q.staS1.fail 3 ∧ q.staS.e ≠ 0 := by
  have h2 : q.staS = q.staS1.fail 3 := by rw [RS.staS, if_neg h]
  refine ⟨h2, ?_⟩
  rw [h2]
  by_cases he : q.staS1.e = 0
  · rw [fail_off he 3 (by decide)]; decide
  · rw [fail_on he]; exact he
/-- what lies between the marks is as it was -/
def Btw (lo hi : Nat) (w w' : World) : Prop := ∀ k, lo ≤ k → k < hi → w'.heap[k]? = w.heap[k]?
theorem onlyTo {b N : Nat} {w w' : World} (h : Below N w w') (hN : w.heap.size ≤ N) : Only b w w' := ⟨h.os, h.tape, h.output, h.size, fun k hk _ => h.block k (by omega)⟩
theorem Btw.only {lo hi y : Nat} {w w' w'' : World} (h : Btw lo hi w w') (ho : Only y w' w'') (hs : hi ≤ w'.heap.size) (hy : y < lo ∨ hi ≤ y) : Btw lo hi w w'' := fun k h1 h2 => (ho.block k (by omega) (by omega)).trans (h k h1 h2)
set_option maxHeartbeats 12800000 in
set_option maxRecDepth 100000 in
theorem dstateG (q : RS) (b : Nat) (w : World) (h : Src w b q) :
    Calls Try.prog 16 #[.pointer (some ⟨b, 0, none⟩)] w (STakeP b w q.staE q.staA q.staN q.sta0 q.sta1 q.staS) := by
  have hx := heap_alloc_self w (.cells #[.int .i64 0, .int .i64 0, .int .i64 0, .int .i64 0, .slice none 0 0, .slice none 0 0, .int .i64 0, .int .i64 0, .int .i64 0, .slice none 0 0, .slice none 0 0, .int .i64 0, .int .i64 0] 42)
  have hb : Below w.heap.size w (w.alloc (.cells #[.int .i64 0, .int .i64 0, .int .i64 0, .int .i64 0, .slice none 0 0, .slice none 0 0, .int .i64 0, .int .i64 0, .int .i64 0, .slice none 0 0, .slice none 0 0, .int .i64 0, .int .i64 0] 42)) := (Below.refl _ _).alloc (Nat.le_refl _) _
  have hbl : b < w.heap.size := lt_heap h
  have h1 : Src (w.alloc (.cells #[.int .i64 0, .int .i64 0, .int .i64 0, .int .i64 0, .slice none 0 0, .slice none 0 0, .int .i64 0, .int .i64 0, .int .i64 0, .slice none 0 0, .slice none 0 0, .int .i64 0, .int .i64 0] 42)) b _ := below_at hb hbl h
  have c1 := int_src b q 1048576 _ (by decide) h1
  have c2 := fun w => ctakeG (q.numS 1048576) b w
  have c3 := fun w => ctakeG (q.numS 1048576).confS b w
  have c4 := fun w => slist_src b (q.numS 1048576).confS.confS 2 1048576 w (by decide) (by decide)
  have ca := sta_a q
  have cx := sta_x q
  have cy := sta_y q
  have cd := sta_d q
  unfold CTakeP at c2 c3
  unfold ListPost at c4
  obtain ⟨S, hS⟩ : ∃ S, q.staS = S := ⟨_, rfl⟩
  obtain ⟨FE, hFE⟩ : ∃ S, q.staE = S := ⟨_, rfl⟩
  obtain ⟨FA, hFA⟩ : ∃ S, q.staA = S := ⟨_, rfl⟩
  obtain ⟨FN, hFN⟩ : ∃ S, q.staN = S := ⟨_, rfl⟩
  obtain ⟨F0, hF0⟩ : ∃ S, q.sta0 = S := ⟨_, rfl⟩
  obtain ⟨F1, hF1⟩ : ∃ S, q.sta1 = S := ⟨_, rfl⟩
  obtain ⟨s1, hs1⟩ : ∃ S, q.staS1 = S := ⟨_, rfl⟩
  obtain ⟨L, hL⟩ : ∃ S, q.staL = S := ⟨_, rfl⟩
  have hs1' : ((q.numS 1048576).confS.confS).listS 2 1048576 = s1 := hs1
  have hL' : ((q.numS 1048576).confS.confS).listV 2 1048576 = L := hL
  obtain ⟨q1, hq1⟩ : ∃ q1, q.numS 1048576 = q1 := ⟨_, rfl⟩
  rw [hq1] at hs1' hL'
  obtain ⟨q2, hq2⟩ : ∃ q1', q1.confS = q1' := ⟨_, rfl⟩
  rw [hq2] at hs1' hL'
  obtain ⟨q3, hq3⟩ : ∃ q1', q2.confS = q1' := ⟨_, rfl⟩
  rw [hq3] at hs1' hL'
  have hLl := listV_len q3 2 1048576 (by decide)
  rw [hL'] at hLl
  obtain ⟨U, hU⟩ : ∃ U : Int, (q.numV 1048576 : Int) = U := ⟨_, rfl⟩
  obtain ⟨a, ha⟩ : ∃ c, q1.confV = c := ⟨_, rfl⟩
  obtain ⟨n, hn⟩ : ∃ c, q2.confV = c := ⟨_, rfl⟩
  rw [hS, hFE, hFA, hFN, hF0, hF1] at ca
  rw [hS, hs1, hL] at cx cy
  rw [hS, hs1, hL, hFE, hFA, hFN, hF0, hF1, hU, hq1, ha, hq2, hn] at cd
  rw [hS, hFE, hFA, hFN, hF0, hF1]
  have c1' : Calls Try.prog 52 #[.pointer (some ⟨b, 0, none⟩), .int .i64 1048576] (w.alloc (.cells #[.int .i64 0, .int .i64 0, .int .i64 0, .int .i64 0, .slice none 0 0, .slice none 0 0, .int .i64 0, .int .i64 0, .int .i64 0, .slice none 0 0, .slice none 0 0, .int .i64 0, .int .i64 0] 42)) fun e w' => e = .returned (.int .i64 U) ∧ Src w' b q1 ∧ Only b (w.alloc (.cells #[.int .i64 0, .int .i64 0, .int .i64 0, .int .i64 0, .slice none 0 0, .slice none 0 0, .int .i64 0, .int .i64 0, .int .i64 0, .slice none 0 0, .slice none 0 0, .int .i64 0, .int .i64 0] 42)) w' := by
    rw [← hU, ← hq1]
    exact c1
  simp only [hq1, ha, hq2] at c2
  simp only [hq1, hq2, hq3, hn] at c3
  simp only [hq1, hq2, hq3, hs1', hL'] at c4
  have HA := Lib.hid (And.intro ca (And.intro cx (And.intro cy (And.intro cd hLl))))
  have C2 := Lib.hid c2
  have C3 := Lib.hid c3
  have C4 := Lib.hid c4
  have hz : (w.alloc (.cells #[.int .i64 0, .int .i64 0, .int .i64 0, .int .i64 0, .slice none 0 0, .slice none 0 0, .int .i64 0, .int .i64 0, .int .i64 0, .slice none 0 0, .slice none 0 0, .int .i64 0, .int .i64 0] 42)).heap.size = w.heap.size + 1 := by simp
  have HX := Lib.hid (And.intro hx (And.intro hb (And.intro hz hbl)))
  clear hS hFE hFA hFN hF0 hF1 hs1 hL hs1' hL' hq1 hq2 hq3 hU ha hn ca cx cy cd c1 c2 c3 c4 hLl hx hb hz h1 h hbl
  unfold STakeP
  go_enter Try.func16, Try.ntmps16
  go_upto_region 1 with fail
  generalize w.alloc (.cells #[.int .i64 0, .int .i64 0, .int .i64 0, .int .i64 0, .slice none 0 0, .slice none 0 0, .int .i64 0, .int .i64 0, .int .i64 0, .slice none 0 0, .slice none 0 0, .int .i64 0, .int .i64 0] 42) = w1 at *
  go_wp2_with fail
  refine Calls.mono c1' ?_
  rintro ev w2 ⟨rfl, s2, t2⟩
  have ci := C2.out w2 s2
  clear c1' C2
  go_wp2_with fail
  refine Calls.mono ci ?_
  rintro ev w3 ⟨a2, p2, a3, p3, rfl, hA3, s3, t3⟩
  have ci := C3.out w3 s3
  clear C3
  go_wp2_with fail
  refine Calls.mono ci ?_
  rintro ev w4 ⟨a4, p4, a5, p5, rfl, hN4, s4, t4⟩
  clear ci s2 s3
  obtain ⟨hx, hb, hz, hbl⟩ := HX.out
  have hz2 := t2.size
  have hz3 := t3.size
  have hz4 := t4.size
  have hA4 : CFO a (w.heap.size + 1) w4 (.slice a2 a.M.length p2) (.slice a3 a.C.length p3) := CFO.base (hA3.only t4 (by omega)) (by omega)
  have hN4' : CFO n (w.heap.size + 1) w4 (.slice a4 n.M.length p4) (.slice a5 n.C.length p5) := CFO.base hN4 (by omega)
  have hO4 : Only b w w4 := (((onlyBe hb).trans t2).trans t3).trans t4
  have hx4 := (t4.block _ (by omega) (by omega)).trans ((t3.block _ (by omega) (by omega)).trans ((t2.block _ (by omega) (by omega)).trans hx))
  obtain ⟨y0, y1, yb, yz⟩ := two_newD w4 (.cells #[.int .i64 U, .int .i64 a.e, .int .i64 a.b, .int .i64 a.k, .slice a2 a.M.length p2, .slice a3 a.C.length p3, .int .i64 n.e, .int .i64 n.b, .int .i64 n.k, .slice a4 n.M.length p4, .slice a5 n.C.length p5, .int .i64 0, .int .i64 0] 42) (.cells #[.int .i64 0, .int .i64 0] 40)
  have H5 := Lib.hid (And.intro (below_at yb (lt_heap hx4) hx4) (And.intro y0 (And.intro y1 (And.intro (below_at yb (lt_heap s4) s4) (And.intro hO4 (And.intro yb (And.intro (And.intro hA4 hN4') (show b < w.heap.size ∧ w.heap.size + 1 ≤ w4.heap.size from ⟨hbl, by omega⟩))))))))
  clear HX hx hb hz hz2 hz3 hz4 hA3 hN4 hA4 hN4' hO4 hx4 y0 y1 yb yz s4 t2 t3 t4 hbl
  go_upto_region 3 with fail
  obtain ⟨w5, hw5⟩ : ∃ w5, (w4.alloc (.cells #[.int .i64 U, .int .i64 a.e, .int .i64 a.b, .int .i64 a.k, .slice a2 a.M.length p2, .slice a3 a.C.length p3, .int .i64 n.e, .int .i64 n.b, .int .i64 n.k, .slice a4 n.M.length p4, .slice a5 n.C.length p5, .int .i64 0, .int .i64 0] 42)).alloc (.cells #[.int .i64 0, .int .i64 0] 40) = w5 := ⟨_, rfl⟩
  rw [hw5] at H5
  try rw [hw5]
  clear hw5
  obtain ⟨N4, hN4⟩ : ∃ N4, w4.heap.size = N4 := ⟨_, rfl⟩
  rw [hN4] at H5
  try rw [hN4]
  have HN4 := Lib.hid hN4
  clear hN4
  have ci := C4.out w5.drew H5.out.2.2.2.1
  clear C4
  go_region_held3 (fun _ => True) (exact trivial) (first | (go_at_call 60; refine Calls.mono ci ?_; rintro ev w6 ⟨v8, rfl, o8, s6, t6⟩; obtain ⟨a8, p8, rfl⟩ := owns_form3 o8; obtain ⟨w8, hcp, ho8, h28⟩ := copy_two (P := Try.prog) w6 (N4 + 1) 22 3 3 40 a8 L.length p8 L Try.underlying22 (by kernel_rfl) ((t6.block _ (lt_heap H5.out.2.2.1) (by have := H5.out.2.2.2.2.2.2.2; omega)).trans H5.out.2.2.1) rfl (by have := HA.out.2.2.2.2; omega) (SR.owns o8)))
  obtain ⟨e0, e1, e2, e3, e4, e5, e6, e7, e8⟩ := H5.out
  have z5 := lt_heap e2
  have z6 : w5.heap.size ≤ w6.heap.size := t6.size
  have z8 := ho8.size
  have B8 : Btw (w.heap.size + 1) N4 w4 w8 := by
    have b0 : Btw (w.heap.size + 1) N4 w4 w5 := fun k h1 h2 => e5.block k h2
    have b1 : Btw (w.heap.size + 1) N4 w4 w6 := fun k h1 h2 => (t6.block k (by show k < w5.heap.size; omega) (by omega)).trans (b0 k h1 h2)
    exact b1.only ho8 (by omega) (by omega)
  have H8 := Lib.hid (show w8.heap[w.heap.size]? = some (.cells #[.int .i64 0, .int .i64 0, .int .i64 0, .int .i64 0, .slice none 0 0, .slice none 0 0, .int .i64 0, .int .i64 0, .int .i64 0, .slice none 0 0, .slice none 0 0, .int .i64 0, .int .i64 0] 42) ∧ w8.heap[N4]? = some (.cells #[.int .i64 U, .int .i64 a.e, .int .i64 a.b, .int .i64 a.k, .slice a2 a.M.length p2, .slice a3 a.C.length p3, .int .i64 n.e, .int .i64 n.b, .int .i64 n.k, .slice a4 n.M.length p4, .slice a5 n.C.length p5, .int .i64 0, .int .i64 0] 42) ∧ Src w8 b s1 ∧ Only b w w8 ∧ Btw (w.heap.size + 1) N4 w4 w8 ∧ N4 + 2 ≤ w8.heap.size ∧ (CFO a (w.heap.size + 1) w4 (.slice a2 a.M.length p2) (.slice a3 a.C.length p3) ∧ CFO n (w.heap.size + 1) w4 (.slice a4 n.M.length p4) (.slice a5 n.C.length p5)) ∧ b < w.heap.size ∧ w.heap.size + 1 ≤ N4 from
    ⟨(ho8.block _ (by omega) (by omega)).trans ((t6.block _ (by show _ < w5.heap.size; omega) (by omega)).trans e0), (ho8.block _ (by omega) (by omega)).trans ((t6.block _ (by show _ < w5.heap.size; omega) (by omega)).trans e1), (ho8.block _ (lt_heap s6) (by omega)).trans s6, onlyTwo ((e4.trans (onlyTo e5 (Nat.le_of_eq HN4.out))).trans ⟨t6.os, t6.tape, t6.output, t6.size, t6.block⟩) ho8 (by omega), B8, by omega, e6, e7, e8⟩)
  have H28 := Lib.hid h28
  clear e0 e1 e2 e3 e4 e5 e6 e7 e8 z5 z6 z8 B8 H5 ci s6 t6 ho8 h28 o8
  by_cases h2 : L.length = 2
  · have hn2 : ((L.length : Int) != 2) = false := by rw [h2]; rfl
    have hSs := HA.out.2.1 h2
    subst hSs
    have ce := err_some b S.e w8 (Src.c1 H8.out.2.2.1)
    clear hcp
    by_cases hE : S.e = 0
    · rw [hE] at ce
      obtain ⟨-, hEe, hAa, hNn, h0, h1⟩ := HA.out.2.2.2.1 hE h2
      subst hEe hAa hNn
      have hX8 := H28.out h2
      rw [← h0, ← h1] at hX8
      have HX8 := Lib.hid hX8
      clear hX8 h0 h1 hE h2 H28 HA
      go_wp2_with fail
      refine Calls.mono ce ?_
      rintro ev w9 ⟨rfl, rfl⟩
      clear ce hn2
      have x0 := cell_atD HX8.out 0 (v := .int .i64 F0) rfl
      have x1 := cell_atD HX8.out 1 (v := .int .i64 F1) rfl
      have hT8 := H8.out.2.1
      have hR8 := H8.out.1
      have k11 := cell_atD hT8 11 (v := .int .i64 0) rfl
      have k12 := cell_atD hT8 12 (v := .int .i64 0) rfl
      have fT : ∀ j, w8.frozen? ⟨N4, j, none⟩ = false := fun j => by simp [World.frozen?, hT8]
      have A1 : (w8.setCell ⟨N4, 11, none⟩ (.int .i64 F0)).heap[N4]? = some (.cells #[.int .i64 FE, .int .i64 FA.e, .int .i64 FA.b, .int .i64 FA.k, .slice a2 FA.M.length p2, .slice a3 FA.C.length p3, .int .i64 FN.e, .int .i64 FN.b, .int .i64 FN.k, .slice a4 FN.M.length p4, .slice a5 FN.C.length p5, .int .i64 F0, .int .i64 0] 42) := heap_set_self hT8 11 _
      have A2 : ((w8.setCell ⟨N4, 11, none⟩ (.int .i64 F0)).setCell ⟨N4, 12, none⟩ (.int .i64 F1)).heap[N4]? = some (.cells #[.int .i64 FE, .int .i64 FA.e, .int .i64 FA.b, .int .i64 FA.k, .slice a2 FA.M.length p2, .slice a3 FA.C.length p3, .int .i64 FN.e, .int .i64 FN.b, .int .i64 FN.k, .slice a4 FN.M.length p4, .slice a5 FN.C.length p5, .int .i64 F0, .int .i64 F1] 42) := heap_set_self A1 12 _
      have AO : Only (N4) w8 ((w8.setCell ⟨N4, 11, none⟩ (.int .i64 F0)).setCell ⟨N4, 12, none⟩ (.int .i64 F1)) := ((Only.refl _ _).set 11 _).set 12 _
      have hR9 := (AO.block _ (lt_heap hR8) (by have := H8.out.2.2.2.2.2.2.2.2; omega)).trans hR8
      have HWA := Lib.hid (show ((w8.setCell ⟨N4, 11, none⟩ (.int .i64 F0)).setCell ⟨N4, 12, none⟩ (.int .i64 F1)).heap[w.heap.size]? = some (.cells #[.int .i64 0, .int .i64 0, .int .i64 0, .int .i64 0, .slice none 0 0, .slice none 0 0, .int .i64 0, .int .i64 0, .int .i64 0, .slice none 0 0, .slice none 0 0, .int .i64 0, .int .i64 0] 42) ∧ ((w8.setCell ⟨N4, 11, none⟩ (.int .i64 F0)).setCell ⟨N4, 12, none⟩ (.int .i64 F1)).heap[N4]? = some (.cells #[.int .i64 FE, .int .i64 FA.e, .int .i64 FA.b, .int .i64 FA.k, .slice a2 FA.M.length p2, .slice a3 FA.C.length p3, .int .i64 FN.e, .int .i64 FN.b, .int .i64 FN.k, .slice a4 FN.M.length p4, .slice a5 FN.C.length p5, .int .i64 F0, .int .i64 F1] 42) ∧ CFO FA (w.heap.size + 1) w4 (.slice a2 FA.M.length p2) (.slice a3 FA.C.length p3) ∧ CFO FN (w.heap.size + 1) w4 (.slice a4 FN.M.length p4) (.slice a5 FN.C.length p5) ∧ Btw (w.heap.size + 1) N4 w4 ((w8.setCell ⟨N4, 11, none⟩ (.int .i64 F0)).setCell ⟨N4, 12, none⟩ (.int .i64 F1)) ∧ Src ((w8.setCell ⟨N4, 11, none⟩ (.int .i64 F0)).setCell ⟨N4, 12, none⟩ (.int .i64 F1)) b S ∧ Only b w ((w8.setCell ⟨N4, 11, none⟩ (.int .i64 F0)).setCell ⟨N4, 12, none⟩ (.int .i64 F1)) ∧ N4 ≤ ((w8.setCell ⟨N4, 11, none⟩ (.int .i64 F0)).setCell ⟨N4, 12, none⟩ (.int .i64 F1)).heap.size ∧ b < w.heap.size from by
        obtain ⟨-, -, e2, e3, e4, e5, e6, e7, e8⟩ := H8.out
        exact ⟨hR9, A2, e6.1, e6.2, e4.only AO (by omega) (by omega), (AO.block _ (lt_heap e2) (by omega)).trans e2, onlyTwo e3 AO (by omega), by have := AO.size; omega, e7⟩)
      clear A1 A2 AO hR9 hT8 hR8 H8
      go_upto_region 8 with fail
      clear x0 x1 k11 k12 fT HX8
      generalize ((w8.setCell ⟨N4, 11, none⟩ (.int .i64 F0)).setCell ⟨N4, 12, none⟩ (.int .i64 F1)) = wA at *
      have hR9 := HWA.out.1
      have hT9 := HWA.out.2.1
      have k0 := cell_atD hT9 0 (v := .int .i64 FE) rfl
      have k1 := cell_atD hT9 1 (v := .int .i64 FA.e) rfl
      have k2 := cell_atD hT9 2 (v := .int .i64 FA.b) rfl
      have k3 := cell_atD hT9 3 (v := .int .i64 FA.k) rfl
      have k4 := cell_atD hT9 4 (v := .slice a2 FA.M.length p2) rfl
      have k5 := cell_atD hT9 5 (v := .slice a3 FA.C.length p3) rfl
      have k6 := cell_atD hT9 6 (v := .int .i64 FN.e) rfl
      have k7 := cell_atD hT9 7 (v := .int .i64 FN.b) rfl
      have k8 := cell_atD hT9 8 (v := .int .i64 FN.k) rfl
      have k9 := cell_atD hT9 9 (v := .slice a4 FN.M.length p4) rfl
      have k10 := cell_atD hT9 10 (v := .slice a5 FN.C.length p5) rfl
      have k11 := cell_atD hT9 11 (v := .int .i64 F0) rfl
      have k12 := cell_atD hT9 12 (v := .int .i64 F1) rfl
      have z0 := cell_atD hR9 0 (v := .int .i64 0) rfl
      have z1 := cell_atD hR9 1 (v := .int .i64 0) rfl
      have z2 := cell_atD hR9 2 (v := .int .i64 0) rfl
      have z3 := cell_atD hR9 3 (v := .int .i64 0) rfl
      have z4 := cell_atD hR9 4 (v := .slice none 0 0) rfl
      have z5 := cell_atD hR9 5 (v := .slice none 0 0) rfl
      have z6 := cell_atD hR9 6 (v := .int .i64 0) rfl
      have z7 := cell_atD hR9 7 (v := .int .i64 0) rfl
      have z8 := cell_atD hR9 8 (v := .int .i64 0) rfl
      have z9 := cell_atD hR9 9 (v := .slice none 0 0) rfl
      have z10 := cell_atD hR9 10 (v := .slice none 0 0) rfl
      have z11 := cell_atD hR9 11 (v := .int .i64 0) rfl
      have z12 := cell_atD hR9 12 (v := .int .i64 0) rfl
      have fz : ∀ j, wA.frozen? ⟨w.heap.size, j, none⟩ = false := fun j => by simp [World.frozen?, hR9]
      have g1 : (wA.setCell ⟨w.heap.size, 0, none⟩ (.int .i64 FE)).heap[w.heap.size]? = some (.cells #[.int .i64 FE, .int .i64 0, .int .i64 0, .int .i64 0, .slice none 0 0, .slice none 0 0, .int .i64 0, .int .i64 0, .int .i64 0, .slice none 0 0, .slice none 0 0, .int .i64 0, .int .i64 0] 42) := heap_set_self hR9 0 _
      have g2 : ((wA.setCell ⟨w.heap.size, 0, none⟩ (.int .i64 FE)).setCell ⟨w.heap.size, 1, none⟩ (.int .i64 FA.e)).heap[w.heap.size]? = some (.cells #[.int .i64 FE, .int .i64 FA.e, .int .i64 0, .int .i64 0, .slice none 0 0, .slice none 0 0, .int .i64 0, .int .i64 0, .int .i64 0, .slice none 0 0, .slice none 0 0, .int .i64 0, .int .i64 0] 42) := heap_set_self g1 1 _
      have g3 : (((wA.setCell ⟨w.heap.size, 0, none⟩ (.int .i64 FE)).setCell ⟨w.heap.size, 1, none⟩ (.int .i64 FA.e)).setCell ⟨w.heap.size, 2, none⟩ (.int .i64 FA.b)).heap[w.heap.size]? = some (.cells #[.int .i64 FE, .int .i64 FA.e, .int .i64 FA.b, .int .i64 0, .slice none 0 0, .slice none 0 0, .int .i64 0, .int .i64 0, .int .i64 0, .slice none 0 0, .slice none 0 0, .int .i64 0, .int .i64 0] 42) := heap_set_self g2 2 _
      have g4 : ((((wA.setCell ⟨w.heap.size, 0, none⟩ (.int .i64 FE)).setCell ⟨w.heap.size, 1, none⟩ (.int .i64 FA.e)).setCell ⟨w.heap.size, 2, none⟩ (.int .i64 FA.b)).setCell ⟨w.heap.size, 3, none⟩ (.int .i64 FA.k)).heap[w.heap.size]? = some (.cells #[.int .i64 FE, .int .i64 FA.e, .int .i64 FA.b, .int .i64 FA.k, .slice none 0 0, .slice none 0 0, .int .i64 0, .int .i64 0, .int .i64 0, .slice none 0 0, .slice none 0 0, .int .i64 0, .int .i64 0] 42) := heap_set_self g3 3 _
      have g5 : (((((wA.setCell ⟨w.heap.size, 0, none⟩ (.int .i64 FE)).setCell ⟨w.heap.size, 1, none⟩ (.int .i64 FA.e)).setCell ⟨w.heap.size, 2, none⟩ (.int .i64 FA.b)).setCell ⟨w.heap.size, 3, none⟩ (.int .i64 FA.k)).setCell ⟨w.heap.size, 4, none⟩ (.slice a2 FA.M.length p2)).heap[w.heap.size]? = some (.cells #[.int .i64 FE, .int .i64 FA.e, .int .i64 FA.b, .int .i64 FA.k, .slice a2 FA.M.length p2, .slice none 0 0, .int .i64 0, .int .i64 0, .int .i64 0, .slice none 0 0, .slice none 0 0, .int .i64 0, .int .i64 0] 42) := heap_set_self g4 4 _
      have g6 : ((((((wA.setCell ⟨w.heap.size, 0, none⟩ (.int .i64 FE)).setCell ⟨w.heap.size, 1, none⟩ (.int .i64 FA.e)).setCell ⟨w.heap.size, 2, none⟩ (.int .i64 FA.b)).setCell ⟨w.heap.size, 3, none⟩ (.int .i64 FA.k)).setCell ⟨w.heap.size, 4, none⟩ (.slice a2 FA.M.length p2)).setCell ⟨w.heap.size, 5, none⟩ (.slice a3 FA.C.length p3)).heap[w.heap.size]? = some (.cells #[.int .i64 FE, .int .i64 FA.e, .int .i64 FA.b, .int .i64 FA.k, .slice a2 FA.M.length p2, .slice a3 FA.C.length p3, .int .i64 0, .int .i64 0, .int .i64 0, .slice none 0 0, .slice none 0 0, .int .i64 0, .int .i64 0] 42) := heap_set_self g5 5 _
      have g7 : (((((((wA.setCell ⟨w.heap.size, 0, none⟩ (.int .i64 FE)).setCell ⟨w.heap.size, 1, none⟩ (.int .i64 FA.e)).setCell ⟨w.heap.size, 2, none⟩ (.int .i64 FA.b)).setCell ⟨w.heap.size, 3, none⟩ (.int .i64 FA.k)).setCell ⟨w.heap.size, 4, none⟩ (.slice a2 FA.M.length p2)).setCell ⟨w.heap.size, 5, none⟩ (.slice a3 FA.C.length p3)).setCell ⟨w.heap.size, 6, none⟩ (.int .i64 FN.e)).heap[w.heap.size]? = some (.cells #[.int .i64 FE, .int .i64 FA.e, .int .i64 FA.b, .int .i64 FA.k, .slice a2 FA.M.length p2, .slice a3 FA.C.length p3, .int .i64 FN.e, .int .i64 0, .int .i64 0, .slice none 0 0, .slice none 0 0, .int .i64 0, .int .i64 0] 42) := heap_set_self g6 6 _
      have g8 : ((((((((wA.setCell ⟨w.heap.size, 0, none⟩ (.int .i64 FE)).setCell ⟨w.heap.size, 1, none⟩ (.int .i64 FA.e)).setCell ⟨w.heap.size, 2, none⟩ (.int .i64 FA.b)).setCell ⟨w.heap.size, 3, none⟩ (.int .i64 FA.k)).setCell ⟨w.heap.size, 4, none⟩ (.slice a2 FA.M.length p2)).setCell ⟨w.heap.size, 5, none⟩ (.slice a3 FA.C.length p3)).setCell ⟨w.heap.size, 6, none⟩ (.int .i64 FN.e)).setCell ⟨w.heap.size, 7, none⟩ (.int .i64 FN.b)).heap[w.heap.size]? = some (.cells #[.int .i64 FE, .int .i64 FA.e, .int .i64 FA.b, .int .i64 FA.k, .slice a2 FA.M.length p2, .slice a3 FA.C.length p3, .int .i64 FN.e, .int .i64 FN.b, .int .i64 0, .slice none 0 0, .slice none 0 0, .int .i64 0, .int .i64 0] 42) := heap_set_self g7 7 _
      have g9 : (((((((((wA.setCell ⟨w.heap.size, 0, none⟩ (.int .i64 FE)).setCell ⟨w.heap.size, 1, none⟩ (.int .i64 FA.e)).setCell ⟨w.heap.size, 2, none⟩ (.int .i64 FA.b)).setCell ⟨w.heap.size, 3, none⟩ (.int .i64 FA.k)).setCell ⟨w.heap.size, 4, none⟩ (.slice a2 FA.M.length p2)).setCell ⟨w.heap.size, 5, none⟩ (.slice a3 FA.C.length p3)).setCell ⟨w.heap.size, 6, none⟩ (.int .i64 FN.e)).setCell ⟨w.heap.size, 7, none⟩ (.int .i64 FN.b)).setCell ⟨w.heap.size, 8, none⟩ (.int .i64 FN.k)).heap[w.heap.size]? = some (.cells #[.int .i64 FE, .int .i64 FA.e, .int .i64 FA.b, .int .i64 FA.k, .slice a2 FA.M.length p2, .slice a3 FA.C.length p3, .int .i64 FN.e, .int .i64 FN.b, .int .i64 FN.k, .slice none 0 0, .slice none 0 0, .int .i64 0, .int .i64 0] 42) := heap_set_self g8 8 _
      have g10 : ((((((((((wA.setCell ⟨w.heap.size, 0, none⟩ (.int .i64 FE)).setCell ⟨w.heap.size, 1, none⟩ (.int .i64 FA.e)).setCell ⟨w.heap.size, 2, none⟩ (.int .i64 FA.b)).setCell ⟨w.heap.size, 3, none⟩ (.int .i64 FA.k)).setCell ⟨w.heap.size, 4, none⟩ (.slice a2 FA.M.length p2)).setCell ⟨w.heap.size, 5, none⟩ (.slice a3 FA.C.length p3)).setCell ⟨w.heap.size, 6, none⟩ (.int .i64 FN.e)).setCell ⟨w.heap.size, 7, none⟩ (.int .i64 FN.b)).setCell ⟨w.heap.size, 8, none⟩ (.int .i64 FN.k)).setCell ⟨w.heap.size, 9, none⟩ (.slice a4 FN.M.length p4)).heap[w.heap.size]? = some (.cells #[.int .i64 FE, .int .i64 FA.e, .int .i64 FA.b, .int .i64 FA.k, .slice a2 FA.M.length p2, .slice a3 FA.C.length p3, .int .i64 FN.e, .int .i64 FN.b, .int .i64 FN.k, .slice a4 FN.M.length p4, .slice none 0 0, .int .i64 0, .int .i64 0] 42) := heap_set_self g9 9 _
      have g11 : (((((((((((wA.setCell ⟨w.heap.size, 0, none⟩ (.int .i64 FE)).setCell ⟨w.heap.size, 1, none⟩ (.int .i64 FA.e)).setCell ⟨w.heap.size, 2, none⟩ (.int .i64 FA.b)).setCell ⟨w.heap.size, 3, none⟩ (.int .i64 FA.k)).setCell ⟨w.heap.size, 4, none⟩ (.slice a2 FA.M.length p2)).setCell ⟨w.heap.size, 5, none⟩ (.slice a3 FA.C.length p3)).setCell ⟨w.heap.size, 6, none⟩ (.int .i64 FN.e)).setCell ⟨w.heap.size, 7, none⟩ (.int .i64 FN.b)).setCell ⟨w.heap.size, 8, none⟩ (.int .i64 FN.k)).setCell ⟨w.heap.size, 9, none⟩ (.slice a4 FN.M.length p4)).setCell ⟨w.heap.size, 10, none⟩ (.slice a5 FN.C.length p5)).heap[w.heap.size]? = some (.cells #[.int .i64 FE, .int .i64 FA.e, .int .i64 FA.b, .int .i64 FA.k, .slice a2 FA.M.length p2, .slice a3 FA.C.length p3, .int .i64 FN.e, .int .i64 FN.b, .int .i64 FN.k, .slice a4 FN.M.length p4, .slice a5 FN.C.length p5, .int .i64 0, .int .i64 0] 42) := heap_set_self g10 10 _
      have g12 : ((((((((((((wA.setCell ⟨w.heap.size, 0, none⟩ (.int .i64 FE)).setCell ⟨w.heap.size, 1, none⟩ (.int .i64 FA.e)).setCell ⟨w.heap.size, 2, none⟩ (.int .i64 FA.b)).setCell ⟨w.heap.size, 3, none⟩ (.int .i64 FA.k)).setCell ⟨w.heap.size, 4, none⟩ (.slice a2 FA.M.length p2)).setCell ⟨w.heap.size, 5, none⟩ (.slice a3 FA.C.length p3)).setCell ⟨w.heap.size, 6, none⟩ (.int .i64 FN.e)).setCell ⟨w.heap.size, 7, none⟩ (.int .i64 FN.b)).setCell ⟨w.heap.size, 8, none⟩ (.int .i64 FN.k)).setCell ⟨w.heap.size, 9, none⟩ (.slice a4 FN.M.length p4)).setCell ⟨w.heap.size, 10, none⟩ (.slice a5 FN.C.length p5)).setCell ⟨w.heap.size, 11, none⟩ (.int .i64 F0)).heap[w.heap.size]? = some (.cells #[.int .i64 FE, .int .i64 FA.e, .int .i64 FA.b, .int .i64 FA.k, .slice a2 FA.M.length p2, .slice a3 FA.C.length p3, .int .i64 FN.e, .int .i64 FN.b, .int .i64 FN.k, .slice a4 FN.M.length p4, .slice a5 FN.C.length p5, .int .i64 F0, .int .i64 0] 42) := heap_set_self g11 11 _
      have g13 : (((((((((((((wA.setCell ⟨w.heap.size, 0, none⟩ (.int .i64 FE)).setCell ⟨w.heap.size, 1, none⟩ (.int .i64 FA.e)).setCell ⟨w.heap.size, 2, none⟩ (.int .i64 FA.b)).setCell ⟨w.heap.size, 3, none⟩ (.int .i64 FA.k)).setCell ⟨w.heap.size, 4, none⟩ (.slice a2 FA.M.length p2)).setCell ⟨w.heap.size, 5, none⟩ (.slice a3 FA.C.length p3)).setCell ⟨w.heap.size, 6, none⟩ (.int .i64 FN.e)).setCell ⟨w.heap.size, 7, none⟩ (.int .i64 FN.b)).setCell ⟨w.heap.size, 8, none⟩ (.int .i64 FN.k)).setCell ⟨w.heap.size, 9, none⟩ (.slice a4 FN.M.length p4)).setCell ⟨w.heap.size, 10, none⟩ (.slice a5 FN.C.length p5)).setCell ⟨w.heap.size, 11, none⟩ (.int .i64 F0)).setCell ⟨w.heap.size, 12, none⟩ (.int .i64 F1)).heap[w.heap.size]? = some (.cells #[.int .i64 FE, .int .i64 FA.e, .int .i64 FA.b, .int .i64 FA.k, .slice a2 FA.M.length p2, .slice a3 FA.C.length p3, .int .i64 FN.e, .int .i64 FN.b, .int .i64 FN.k, .slice a4 FN.M.length p4, .slice a5 FN.C.length p5, .int .i64 F0, .int .i64 F1] 42) := heap_set_self g12 12 _
      have gO : Only (w.heap.size) wA (((((((((((((wA.setCell ⟨w.heap.size, 0, none⟩ (.int .i64 FE)).setCell ⟨w.heap.size, 1, none⟩ (.int .i64 FA.e)).setCell ⟨w.heap.size, 2, none⟩ (.int .i64 FA.b)).setCell ⟨w.heap.size, 3, none⟩ (.int .i64 FA.k)).setCell ⟨w.heap.size, 4, none⟩ (.slice a2 FA.M.length p2)).setCell ⟨w.heap.size, 5, none⟩ (.slice a3 FA.C.length p3)).setCell ⟨w.heap.size, 6, none⟩ (.int .i64 FN.e)).setCell ⟨w.heap.size, 7, none⟩ (.int .i64 FN.b)).setCell ⟨w.heap.size, 8, none⟩ (.int .i64 FN.k)).setCell ⟨w.heap.size, 9, none⟩ (.slice a4 FN.M.length p4)).setCell ⟨w.heap.size, 10, none⟩ (.slice a5 FN.C.length p5)).setCell ⟨w.heap.size, 11, none⟩ (.int .i64 F0)).setCell ⟨w.heap.size, 12, none⟩ (.int .i64 F1)) := (((((((((((((Only.refl _ _).set 0 _).set 1 _).set 2 _).set 3 _).set 4 _).set 5 _).set 6 _).set 7 _).set 8 _).set 9 _).set 10 _).set 11 _).set 12 _
      have GI := Lib.hid g13
      have HFIN := Lib.hid (show CFO FA (w.heap.size + 1) (((((((((((((wA.setCell ⟨w.heap.size, 0, none⟩ (.int .i64 FE)).setCell ⟨w.heap.size, 1, none⟩ (.int .i64 FA.e)).setCell ⟨w.heap.size, 2, none⟩ (.int .i64 FA.b)).setCell ⟨w.heap.size, 3, none⟩ (.int .i64 FA.k)).setCell ⟨w.heap.size, 4, none⟩ (.slice a2 FA.M.length p2)).setCell ⟨w.heap.size, 5, none⟩ (.slice a3 FA.C.length p3)).setCell ⟨w.heap.size, 6, none⟩ (.int .i64 FN.e)).setCell ⟨w.heap.size, 7, none⟩ (.int .i64 FN.b)).setCell ⟨w.heap.size, 8, none⟩ (.int .i64 FN.k)).setCell ⟨w.heap.size, 9, none⟩ (.slice a4 FN.M.length p4)).setCell ⟨w.heap.size, 10, none⟩ (.slice a5 FN.C.length p5)).setCell ⟨w.heap.size, 11, none⟩ (.int .i64 F0)).setCell ⟨w.heap.size, 12, none⟩ (.int .i64 F1)) (.slice a2 FA.M.length p2) (.slice a3 FA.C.length p3) ∧ CFO FN (w.heap.size + 1) (((((((((((((wA.setCell ⟨w.heap.size, 0, none⟩ (.int .i64 FE)).setCell ⟨w.heap.size, 1, none⟩ (.int .i64 FA.e)).setCell ⟨w.heap.size, 2, none⟩ (.int .i64 FA.b)).setCell ⟨w.heap.size, 3, none⟩ (.int .i64 FA.k)).setCell ⟨w.heap.size, 4, none⟩ (.slice a2 FA.M.length p2)).setCell ⟨w.heap.size, 5, none⟩ (.slice a3 FA.C.length p3)).setCell ⟨w.heap.size, 6, none⟩ (.int .i64 FN.e)).setCell ⟨w.heap.size, 7, none⟩ (.int .i64 FN.b)).setCell ⟨w.heap.size, 8, none⟩ (.int .i64 FN.k)).setCell ⟨w.heap.size, 9, none⟩ (.slice a4 FN.M.length p4)).setCell ⟨w.heap.size, 10, none⟩ (.slice a5 FN.C.length p5)).setCell ⟨w.heap.size, 11, none⟩ (.int .i64 F0)).setCell ⟨w.heap.size, 12, none⟩ (.int .i64 F1)) (.slice a4 FN.M.length p4) (.slice a5 FN.C.length p5) ∧ Src (((((((((((((wA.setCell ⟨w.heap.size, 0, none⟩ (.int .i64 FE)).setCell ⟨w.heap.size, 1, none⟩ (.int .i64 FA.e)).setCell ⟨w.heap.size, 2, none⟩ (.int .i64 FA.b)).setCell ⟨w.heap.size, 3, none⟩ (.int .i64 FA.k)).setCell ⟨w.heap.size, 4, none⟩ (.slice a2 FA.M.length p2)).setCell ⟨w.heap.size, 5, none⟩ (.slice a3 FA.C.length p3)).setCell ⟨w.heap.size, 6, none⟩ (.int .i64 FN.e)).setCell ⟨w.heap.size, 7, none⟩ (.int .i64 FN.b)).setCell ⟨w.heap.size, 8, none⟩ (.int .i64 FN.k)).setCell ⟨w.heap.size, 9, none⟩ (.slice a4 FN.M.length p4)).setCell ⟨w.heap.size, 10, none⟩ (.slice a5 FN.C.length p5)).setCell ⟨w.heap.size, 11, none⟩ (.int .i64 F0)).setCell ⟨w.heap.size, 12, none⟩ (.int .i64 F1)) b S ∧ Only b w (((((((((((((wA.setCell ⟨w.heap.size, 0, none⟩ (.int .i64 FE)).setCell ⟨w.heap.size, 1, none⟩ (.int .i64 FA.e)).setCell ⟨w.heap.size, 2, none⟩ (.int .i64 FA.b)).setCell ⟨w.heap.size, 3, none⟩ (.int .i64 FA.k)).setCell ⟨w.heap.size, 4, none⟩ (.slice a2 FA.M.length p2)).setCell ⟨w.heap.size, 5, none⟩ (.slice a3 FA.C.length p3)).setCell ⟨w.heap.size, 6, none⟩ (.int .i64 FN.e)).setCell ⟨w.heap.size, 7, none⟩ (.int .i64 FN.b)).setCell ⟨w.heap.size, 8, none⟩ (.int .i64 FN.k)).setCell ⟨w.heap.size, 9, none⟩ (.slice a4 FN.M.length p4)).setCell ⟨w.heap.size, 10, none⟩ (.slice a5 FN.C.length p5)).setCell ⟨w.heap.size, 11, none⟩ (.int .i64 F0)).setCell ⟨w.heap.size, 12, none⟩ (.int .i64 F1)) from by
        obtain ⟨-, -, e2, e3, e4, e5, e6, e7, e8⟩ := HWA.out
        have b2 := e4.only gO e7 (by omega)
        exact ⟨e2.keep (by rw [HN4.out]; exact Nat.le_refl _) b2, e3.keep (by rw [HN4.out]; exact Nat.le_refl _) b2, (gO.block _ (lt_heap e5) (by omega)).trans e5, onlyTwo e6 gO (by omega)⟩)
      clear g1 g2 g3 g4 g5 g6 g7 g8 g9 g10 g11 g12 g13 gO hR9 hT9 HWA
      go_wp2_with fail
      generalize (((((((((((((wA.setCell ⟨w.heap.size, 0, none⟩ (.int .i64 FE)).setCell ⟨w.heap.size, 1, none⟩ (.int .i64 FA.e)).setCell ⟨w.heap.size, 2, none⟩ (.int .i64 FA.b)).setCell ⟨w.heap.size, 3, none⟩ (.int .i64 FA.k)).setCell ⟨w.heap.size, 4, none⟩ (.slice a2 FA.M.length p2)).setCell ⟨w.heap.size, 5, none⟩ (.slice a3 FA.C.length p3)).setCell ⟨w.heap.size, 6, none⟩ (.int .i64 FN.e)).setCell ⟨w.heap.size, 7, none⟩ (.int .i64 FN.b)).setCell ⟨w.heap.size, 8, none⟩ (.int .i64 FN.k)).setCell ⟨w.heap.size, 9, none⟩ (.slice a4 FN.M.length p4)).setCell ⟨w.heap.size, 10, none⟩ (.slice a5 FN.C.length p5)).setCell ⟨w.heap.size, 11, none⟩ (.int .i64 F0)).setCell ⟨w.heap.size, 12, none⟩ (.int .i64 F1)) = wf at *
      have fi := GI.out
      have t0 := cell_atD fi 0 (v := .int .i64 FE) rfl
      have t1 := cell_atD fi 1 (v := .int .i64 FA.e) rfl
      have t2 := cell_atD fi 2 (v := .int .i64 FA.b) rfl
      have t3 := cell_atD fi 3 (v := .int .i64 FA.k) rfl
      have t4 := cell_atD fi 4 (v := .slice a2 FA.M.length p2) rfl
      have t5 := cell_atD fi 5 (v := .slice a3 FA.C.length p3) rfl
      have t6 := cell_atD fi 6 (v := .int .i64 FN.e) rfl
      have t7 := cell_atD fi 7 (v := .int .i64 FN.b) rfl
      have t8 := cell_atD fi 8 (v := .int .i64 FN.k) rfl
      have t9 := cell_atD fi 9 (v := .slice a4 FN.M.length p4) rfl
      have t10 := cell_atD fi 10 (v := .slice a5 FN.C.length p5) rfl
      have t11 := cell_atD fi 11 (v := .int .i64 F0) rfl
      have t12 := cell_atD fi 12 (v := .int .i64 F1) rfl
      clear fi
      refine bodyPost_ret (v := .agg #[.int .i64 FE, .int .i64 FA.e, .int .i64 FA.b, .int .i64 FA.k, .slice a2 FA.M.length p2, .slice a3 FA.C.length p3, .int .i64 FN.e, .int .i64 FN.b, .int .i64 FN.k, .slice a4 FN.M.length p4, .slice a5 FN.C.length p5, .int .i64 F0, .int .i64 F1]) (by simp [results, Try.results16, go_sem, t0, t1, t2, t3, t4, t5, t6, t7, t8, t9, t10, t11, t12]) rfl ?_
      exact ⟨a2, p2, a3, p3, a4, p4, a5, p5, rfl, HFIN.out⟩
    · have u1 : (S.e != 0) = true := by simpa using hE
      have HZ := Lib.hid (HA.out.1 hE)
      clear hE h2 H28 HA
      go_wp2_with fail
      refine Calls.mono ce ?_
      rintro ev w9 ⟨rfl, rfl⟩
      clear ce hn2
      have hR8 := H8.out.1
      have z0 := cell_atD hR8 0 (v := .int .i64 0) rfl
      have z1 := cell_atD hR8 1 (v := .int .i64 0) rfl
      have z2 := cell_atD hR8 2 (v := .int .i64 0) rfl
      have z3 := cell_atD hR8 3 (v := .int .i64 0) rfl
      have z4 := cell_atD hR8 4 (v := .slice none 0 0) rfl
      have z5 := cell_atD hR8 5 (v := .slice none 0 0) rfl
      have z6 := cell_atD hR8 6 (v := .int .i64 0) rfl
      have z7 := cell_atD hR8 7 (v := .int .i64 0) rfl
      have z8 := cell_atD hR8 8 (v := .int .i64 0) rfl
      have z9 := cell_atD hR8 9 (v := .slice none 0 0) rfl
      have z10 := cell_atD hR8 10 (v := .slice none 0 0) rfl
      have z11 := cell_atD hR8 11 (v := .int .i64 0) rfl
      have z12 := cell_atD hR8 12 (v := .int .i64 0) rfl
      have fz : ∀ j, w8.frozen? ⟨w.heap.size, j, none⟩ = false := fun j => by simp [World.frozen?, hR8]
      have g1 : (w8.setCell ⟨w.heap.size, 0, none⟩ (.int .i64 0)).heap[w.heap.size]? = some (.cells #[.int .i64 0, .int .i64 0, .int .i64 0, .int .i64 0, .slice none 0 0, .slice none 0 0, .int .i64 0, .int .i64 0, .int .i64 0, .slice none 0 0, .slice none 0 0, .int .i64 0, .int .i64 0] 42) := heap_set_self hR8 0 _
      have g2 : ((w8.setCell ⟨w.heap.size, 0, none⟩ (.int .i64 0)).setCell ⟨w.heap.size, 1, none⟩ (.int .i64 0)).heap[w.heap.size]? = some (.cells #[.int .i64 0, .int .i64 0, .int .i64 0, .int .i64 0, .slice none 0 0, .slice none 0 0, .int .i64 0, .int .i64 0, .int .i64 0, .slice none 0 0, .slice none 0 0, .int .i64 0, .int .i64 0] 42) := heap_set_self g1 1 _
      have g3 : (((w8.setCell ⟨w.heap.size, 0, none⟩ (.int .i64 0)).setCell ⟨w.heap.size, 1, none⟩ (.int .i64 0)).setCell ⟨w.heap.size, 2, none⟩ (.int .i64 0)).heap[w.heap.size]? = some (.cells #[.int .i64 0, .int .i64 0, .int .i64 0, .int .i64 0, .slice none 0 0, .slice none 0 0, .int .i64 0, .int .i64 0, .int .i64 0, .slice none 0 0, .slice none 0 0, .int .i64 0, .int .i64 0] 42) := heap_set_self g2 2 _
      have g4 : ((((w8.setCell ⟨w.heap.size, 0, none⟩ (.int .i64 0)).setCell ⟨w.heap.size, 1, none⟩ (.int .i64 0)).setCell ⟨w.heap.size, 2, none⟩ (.int .i64 0)).setCell ⟨w.heap.size, 3, none⟩ (.int .i64 0)).heap[w.heap.size]? = some (.cells #[.int .i64 0, .int .i64 0, .int .i64 0, .int .i64 0, .slice none 0 0, .slice none 0 0, .int .i64 0, .int .i64 0, .int .i64 0, .slice none 0 0, .slice none 0 0, .int .i64 0, .int .i64 0] 42) := heap_set_self g3 3 _
      have g5 : (((((w8.setCell ⟨w.heap.size, 0, none⟩ (.int .i64 0)).setCell ⟨w.heap.size, 1, none⟩ (.int .i64 0)).setCell ⟨w.heap.size, 2, none⟩ (.int .i64 0)).setCell ⟨w.heap.size, 3, none⟩ (.int .i64 0)).setCell ⟨w.heap.size, 4, none⟩ (.slice none 0 0)).heap[w.heap.size]? = some (.cells #[.int .i64 0, .int .i64 0, .int .i64 0, .int .i64 0, .slice none 0 0, .slice none 0 0, .int .i64 0, .int .i64 0, .int .i64 0, .slice none 0 0, .slice none 0 0, .int .i64 0, .int .i64 0] 42) := heap_set_self g4 4 _
      have g6 : ((((((w8.setCell ⟨w.heap.size, 0, none⟩ (.int .i64 0)).setCell ⟨w.heap.size, 1, none⟩ (.int .i64 0)).setCell ⟨w.heap.size, 2, none⟩ (.int .i64 0)).setCell ⟨w.heap.size, 3, none⟩ (.int .i64 0)).setCell ⟨w.heap.size, 4, none⟩ (.slice none 0 0)).setCell ⟨w.heap.size, 5, none⟩ (.slice none 0 0)).heap[w.heap.size]? = some (.cells #[.int .i64 0, .int .i64 0, .int .i64 0, .int .i64 0, .slice none 0 0, .slice none 0 0, .int .i64 0, .int .i64 0, .int .i64 0, .slice none 0 0, .slice none 0 0, .int .i64 0, .int .i64 0] 42) := heap_set_self g5 5 _
      have g7 : (((((((w8.setCell ⟨w.heap.size, 0, none⟩ (.int .i64 0)).setCell ⟨w.heap.size, 1, none⟩ (.int .i64 0)).setCell ⟨w.heap.size, 2, none⟩ (.int .i64 0)).setCell ⟨w.heap.size, 3, none⟩ (.int .i64 0)).setCell ⟨w.heap.size, 4, none⟩ (.slice none 0 0)).setCell ⟨w.heap.size, 5, none⟩ (.slice none 0 0)).setCell ⟨w.heap.size, 6, none⟩ (.int .i64 0)).heap[w.heap.size]? = some (.cells #[.int .i64 0, .int .i64 0, .int .i64 0, .int .i64 0, .slice none 0 0, .slice none 0 0, .int .i64 0, .int .i64 0, .int .i64 0, .slice none 0 0, .slice none 0 0, .int .i64 0, .int .i64 0] 42) := heap_set_self g6 6 _
      have g8 : ((((((((w8.setCell ⟨w.heap.size, 0, none⟩ (.int .i64 0)).setCell ⟨w.heap.size, 1, none⟩ (.int .i64 0)).setCell ⟨w.heap.size, 2, none⟩ (.int .i64 0)).setCell ⟨w.heap.size, 3, none⟩ (.int .i64 0)).setCell ⟨w.heap.size, 4, none⟩ (.slice none 0 0)).setCell ⟨w.heap.size, 5, none⟩ (.slice none 0 0)).setCell ⟨w.heap.size, 6, none⟩ (.int .i64 0)).setCell ⟨w.heap.size, 7, none⟩ (.int .i64 0)).heap[w.heap.size]? = some (.cells #[.int .i64 0, .int .i64 0, .int .i64 0, .int .i64 0, .slice none 0 0, .slice none 0 0, .int .i64 0, .int .i64 0, .int .i64 0, .slice none 0 0, .slice none 0 0, .int .i64 0, .int .i64 0] 42) := heap_set_self g7 7 _
      have g9 : (((((((((w8.setCell ⟨w.heap.size, 0, none⟩ (.int .i64 0)).setCell ⟨w.heap.size, 1, none⟩ (.int .i64 0)).setCell ⟨w.heap.size, 2, none⟩ (.int .i64 0)).setCell ⟨w.heap.size, 3, none⟩ (.int .i64 0)).setCell ⟨w.heap.size, 4, none⟩ (.slice none 0 0)).setCell ⟨w.heap.size, 5, none⟩ (.slice none 0 0)).setCell ⟨w.heap.size, 6, none⟩ (.int .i64 0)).setCell ⟨w.heap.size, 7, none⟩ (.int .i64 0)).setCell ⟨w.heap.size, 8, none⟩ (.int .i64 0)).heap[w.heap.size]? = some (.cells #[.int .i64 0, .int .i64 0, .int .i64 0, .int .i64 0, .slice none 0 0, .slice none 0 0, .int .i64 0, .int .i64 0, .int .i64 0, .slice none 0 0, .slice none 0 0, .int .i64 0, .int .i64 0] 42) := heap_set_self g8 8 _
      have g10 : ((((((((((w8.setCell ⟨w.heap.size, 0, none⟩ (.int .i64 0)).setCell ⟨w.heap.size, 1, none⟩ (.int .i64 0)).setCell ⟨w.heap.size, 2, none⟩ (.int .i64 0)).setCell ⟨w.heap.size, 3, none⟩ (.int .i64 0)).setCell ⟨w.heap.size, 4, none⟩ (.slice none 0 0)).setCell ⟨w.heap.size, 5, none⟩ (.slice none 0 0)).setCell ⟨w.heap.size, 6, none⟩ (.int .i64 0)).setCell ⟨w.heap.size, 7, none⟩ (.int .i64 0)).setCell ⟨w.heap.size, 8, none⟩ (.int .i64 0)).setCell ⟨w.heap.size, 9, none⟩ (.slice none 0 0)).heap[w.heap.size]? = some (.cells #[.int .i64 0, .int .i64 0, .int .i64 0, .int .i64 0, .slice none 0 0, .slice none 0 0, .int .i64 0, .int .i64 0, .int .i64 0, .slice none 0 0, .slice none 0 0, .int .i64 0, .int .i64 0] 42) := heap_set_self g9 9 _
      have g11 : (((((((((((w8.setCell ⟨w.heap.size, 0, none⟩ (.int .i64 0)).setCell ⟨w.heap.size, 1, none⟩ (.int .i64 0)).setCell ⟨w.heap.size, 2, none⟩ (.int .i64 0)).setCell ⟨w.heap.size, 3, none⟩ (.int .i64 0)).setCell ⟨w.heap.size, 4, none⟩ (.slice none 0 0)).setCell ⟨w.heap.size, 5, none⟩ (.slice none 0 0)).setCell ⟨w.heap.size, 6, none⟩ (.int .i64 0)).setCell ⟨w.heap.size, 7, none⟩ (.int .i64 0)).setCell ⟨w.heap.size, 8, none⟩ (.int .i64 0)).setCell ⟨w.heap.size, 9, none⟩ (.slice none 0 0)).setCell ⟨w.heap.size, 10, none⟩ (.slice none 0 0)).heap[w.heap.size]? = some (.cells #[.int .i64 0, .int .i64 0, .int .i64 0, .int .i64 0, .slice none 0 0, .slice none 0 0, .int .i64 0, .int .i64 0, .int .i64 0, .slice none 0 0, .slice none 0 0, .int .i64 0, .int .i64 0] 42) := heap_set_self g10 10 _
      have g12 : ((((((((((((w8.setCell ⟨w.heap.size, 0, none⟩ (.int .i64 0)).setCell ⟨w.heap.size, 1, none⟩ (.int .i64 0)).setCell ⟨w.heap.size, 2, none⟩ (.int .i64 0)).setCell ⟨w.heap.size, 3, none⟩ (.int .i64 0)).setCell ⟨w.heap.size, 4, none⟩ (.slice none 0 0)).setCell ⟨w.heap.size, 5, none⟩ (.slice none 0 0)).setCell ⟨w.heap.size, 6, none⟩ (.int .i64 0)).setCell ⟨w.heap.size, 7, none⟩ (.int .i64 0)).setCell ⟨w.heap.size, 8, none⟩ (.int .i64 0)).setCell ⟨w.heap.size, 9, none⟩ (.slice none 0 0)).setCell ⟨w.heap.size, 10, none⟩ (.slice none 0 0)).setCell ⟨w.heap.size, 11, none⟩ (.int .i64 0)).heap[w.heap.size]? = some (.cells #[.int .i64 0, .int .i64 0, .int .i64 0, .int .i64 0, .slice none 0 0, .slice none 0 0, .int .i64 0, .int .i64 0, .int .i64 0, .slice none 0 0, .slice none 0 0, .int .i64 0, .int .i64 0] 42) := heap_set_self g11 11 _
      have g13 : (((((((((((((w8.setCell ⟨w.heap.size, 0, none⟩ (.int .i64 0)).setCell ⟨w.heap.size, 1, none⟩ (.int .i64 0)).setCell ⟨w.heap.size, 2, none⟩ (.int .i64 0)).setCell ⟨w.heap.size, 3, none⟩ (.int .i64 0)).setCell ⟨w.heap.size, 4, none⟩ (.slice none 0 0)).setCell ⟨w.heap.size, 5, none⟩ (.slice none 0 0)).setCell ⟨w.heap.size, 6, none⟩ (.int .i64 0)).setCell ⟨w.heap.size, 7, none⟩ (.int .i64 0)).setCell ⟨w.heap.size, 8, none⟩ (.int .i64 0)).setCell ⟨w.heap.size, 9, none⟩ (.slice none 0 0)).setCell ⟨w.heap.size, 10, none⟩ (.slice none 0 0)).setCell ⟨w.heap.size, 11, none⟩ (.int .i64 0)).setCell ⟨w.heap.size, 12, none⟩ (.int .i64 0)).heap[w.heap.size]? = some (.cells #[.int .i64 0, .int .i64 0, .int .i64 0, .int .i64 0, .slice none 0 0, .slice none 0 0, .int .i64 0, .int .i64 0, .int .i64 0, .slice none 0 0, .slice none 0 0, .int .i64 0, .int .i64 0] 42) := heap_set_self g12 12 _
      have gO : Only (w.heap.size) w8 (((((((((((((w8.setCell ⟨w.heap.size, 0, none⟩ (.int .i64 0)).setCell ⟨w.heap.size, 1, none⟩ (.int .i64 0)).setCell ⟨w.heap.size, 2, none⟩ (.int .i64 0)).setCell ⟨w.heap.size, 3, none⟩ (.int .i64 0)).setCell ⟨w.heap.size, 4, none⟩ (.slice none 0 0)).setCell ⟨w.heap.size, 5, none⟩ (.slice none 0 0)).setCell ⟨w.heap.size, 6, none⟩ (.int .i64 0)).setCell ⟨w.heap.size, 7, none⟩ (.int .i64 0)).setCell ⟨w.heap.size, 8, none⟩ (.int .i64 0)).setCell ⟨w.heap.size, 9, none⟩ (.slice none 0 0)).setCell ⟨w.heap.size, 10, none⟩ (.slice none 0 0)).setCell ⟨w.heap.size, 11, none⟩ (.int .i64 0)).setCell ⟨w.heap.size, 12, none⟩ (.int .i64 0)) := (((((((((((((Only.refl _ _).set 0 _).set 1 _).set 2 _).set 3 _).set 4 _).set 5 _).set 6 _).set 7 _).set 8 _).set 9 _).set 10 _).set 11 _).set 12 _
      have GI := Lib.hid g13
      have HFIN := Lib.hid (show Src (((((((((((((w8.setCell ⟨w.heap.size, 0, none⟩ (.int .i64 0)).setCell ⟨w.heap.size, 1, none⟩ (.int .i64 0)).setCell ⟨w.heap.size, 2, none⟩ (.int .i64 0)).setCell ⟨w.heap.size, 3, none⟩ (.int .i64 0)).setCell ⟨w.heap.size, 4, none⟩ (.slice none 0 0)).setCell ⟨w.heap.size, 5, none⟩ (.slice none 0 0)).setCell ⟨w.heap.size, 6, none⟩ (.int .i64 0)).setCell ⟨w.heap.size, 7, none⟩ (.int .i64 0)).setCell ⟨w.heap.size, 8, none⟩ (.int .i64 0)).setCell ⟨w.heap.size, 9, none⟩ (.slice none 0 0)).setCell ⟨w.heap.size, 10, none⟩ (.slice none 0 0)).setCell ⟨w.heap.size, 11, none⟩ (.int .i64 0)).setCell ⟨w.heap.size, 12, none⟩ (.int .i64 0)) b S ∧ Only b w (((((((((((((w8.setCell ⟨w.heap.size, 0, none⟩ (.int .i64 0)).setCell ⟨w.heap.size, 1, none⟩ (.int .i64 0)).setCell ⟨w.heap.size, 2, none⟩ (.int .i64 0)).setCell ⟨w.heap.size, 3, none⟩ (.int .i64 0)).setCell ⟨w.heap.size, 4, none⟩ (.slice none 0 0)).setCell ⟨w.heap.size, 5, none⟩ (.slice none 0 0)).setCell ⟨w.heap.size, 6, none⟩ (.int .i64 0)).setCell ⟨w.heap.size, 7, none⟩ (.int .i64 0)).setCell ⟨w.heap.size, 8, none⟩ (.int .i64 0)).setCell ⟨w.heap.size, 9, none⟩ (.slice none 0 0)).setCell ⟨w.heap.size, 10, none⟩ (.slice none 0 0)).setCell ⟨w.heap.size, 11, none⟩ (.int .i64 0)).setCell ⟨w.heap.size, 12, none⟩ (.int .i64 0)) from by
        obtain ⟨-, -, e2, e3, e4, e5, e6, e7, e8⟩ := H8.out
        exact ⟨(gO.block _ (lt_heap e2) (by omega)).trans e2, onlyTwo e3 gO (by omega)⟩)
      clear g1 g2 g3 g4 g5 g6 g7 g8 g9 g10 g11 g12 g13 gO hR8 H8
      go_wp2_with fail
      generalize (((((((((((((w8.setCell ⟨w.heap.size, 0, none⟩ (.int .i64 0)).setCell ⟨w.heap.size, 1, none⟩ (.int .i64 0)).setCell ⟨w.heap.size, 2, none⟩ (.int .i64 0)).setCell ⟨w.heap.size, 3, none⟩ (.int .i64 0)).setCell ⟨w.heap.size, 4, none⟩ (.slice none 0 0)).setCell ⟨w.heap.size, 5, none⟩ (.slice none 0 0)).setCell ⟨w.heap.size, 6, none⟩ (.int .i64 0)).setCell ⟨w.heap.size, 7, none⟩ (.int .i64 0)).setCell ⟨w.heap.size, 8, none⟩ (.int .i64 0)).setCell ⟨w.heap.size, 9, none⟩ (.slice none 0 0)).setCell ⟨w.heap.size, 10, none⟩ (.slice none 0 0)).setCell ⟨w.heap.size, 11, none⟩ (.int .i64 0)).setCell ⟨w.heap.size, 12, none⟩ (.int .i64 0)) = wf at *
      have fi := GI.out
      have t0 := cell_atD fi 0 (v := .int .i64 0) rfl
      have t1 := cell_atD fi 1 (v := .int .i64 0) rfl
      have t2 := cell_atD fi 2 (v := .int .i64 0) rfl
      have t3 := cell_atD fi 3 (v := .int .i64 0) rfl
      have t4 := cell_atD fi 4 (v := .slice none 0 0) rfl
      have t5 := cell_atD fi 5 (v := .slice none 0 0) rfl
      have t6 := cell_atD fi 6 (v := .int .i64 0) rfl
      have t7 := cell_atD fi 7 (v := .int .i64 0) rfl
      have t8 := cell_atD fi 8 (v := .int .i64 0) rfl
      have t9 := cell_atD fi 9 (v := .slice none 0 0) rfl
      have t10 := cell_atD fi 10 (v := .slice none 0 0) rfl
      have t11 := cell_atD fi 11 (v := .int .i64 0) rfl
      have t12 := cell_atD fi 12 (v := .int .i64 0) rfl
      clear fi
      refine bodyPost_ret (v := .agg #[.int .i64 0, .int .i64 0, .int .i64 0, .int .i64 0, .slice none 0 0, .slice none 0 0, .int .i64 0, .int .i64 0, .int .i64 0, .slice none 0 0, .slice none 0 0, .int .i64 0, .int .i64 0]) (by simp [results, Try.results16, go_sem, t0, t1, t2, t3, t4, t5, t6, t7, t8, t9, t10, t11, t12]) rfl ?_
      obtain ⟨e1, e2, e3, e4, e5⟩ := HZ.out
      exact ⟨none, 0, none, 0, none, 0, none, 0, by rw [e1, e2, e3, e4, e5]; rfl, by rw [e2]; exact ⟨World.ownsRow_nil _ _ _ _, World.ownsRow_nil _ _ _ _⟩, by rw [e3]; exact ⟨World.ownsRow_nil _ _ _ _, World.ownsRow_nil _ _ _ _⟩, HFIN.out⟩
  · have hn2 : ((L.length : Int) != 2) = true := by simp only [bne_iff_ne, ne_eq]; omega
    obtain ⟨hSs, hSe⟩ := HA.out.2.2.1 h2
    have hZ := HA.out.1 hSe
    have u1 : (S.e != 0) = true := by simpa using hSe
    have cw := wrong_src b s1 3 w8 H8.out.2.2.1
    rw [← hSs] at cw
    have HZ := Lib.hid hZ
    clear hSs hSe hZ h2 hcp H28 HA
    go_wp2_with fail
    refine Calls.mono cw ?_
    rintro ev w9 ⟨rfl, s9, t9⟩
    have ce := err_some b S.e w9 (Src.c1 s9)
    clear cw hn2
    go_wp2_with fail
    refine Calls.mono ce ?_
    rintro ev w10 ⟨rfl, rfl⟩
    clear ce
    obtain ⟨e0, -, -, e3, -, e5, -, e7, e8⟩ := H8.out
    have hR8 : w9.heap[w.heap.size]? = some (.cells #[.int .i64 0, .int .i64 0, .int .i64 0, .int .i64 0, .slice none 0 0, .slice none 0 0, .int .i64 0, .int .i64 0, .int .i64 0, .slice none 0 0, .slice none 0 0, .int .i64 0, .int .i64 0] 42) := (t9.block _ (by omega) (by omega)).trans e0
    have z0 := cell_atD hR8 0 (v := .int .i64 0) rfl
    have z1 := cell_atD hR8 1 (v := .int .i64 0) rfl
    have z2 := cell_atD hR8 2 (v := .int .i64 0) rfl
    have z3 := cell_atD hR8 3 (v := .int .i64 0) rfl
    have z4 := cell_atD hR8 4 (v := .slice none 0 0) rfl
    have z5 := cell_atD hR8 5 (v := .slice none 0 0) rfl
    have z6 := cell_atD hR8 6 (v := .int .i64 0) rfl
    have z7 := cell_atD hR8 7 (v := .int .i64 0) rfl
    have z8 := cell_atD hR8 8 (v := .int .i64 0) rfl
    have z9 := cell_atD hR8 9 (v := .slice none 0 0) rfl
    have z10 := cell_atD hR8 10 (v := .slice none 0 0) rfl
    have z11 := cell_atD hR8 11 (v := .int .i64 0) rfl
    have z12 := cell_atD hR8 12 (v := .int .i64 0) rfl
    have fz : ∀ j, w9.frozen? ⟨w.heap.size, j, none⟩ = false := fun j => by simp [World.frozen?, hR8]
    have g1 : (w9.setCell ⟨w.heap.size, 0, none⟩ (.int .i64 0)).heap[w.heap.size]? = some (.cells #[.int .i64 0, .int .i64 0, .int .i64 0, .int .i64 0, .slice none 0 0, .slice none 0 0, .int .i64 0, .int .i64 0, .int .i64 0, .slice none 0 0, .slice none 0 0, .int .i64 0, .int .i64 0] 42) := heap_set_self hR8 0 _
    have g2 : ((w9.setCell ⟨w.heap.size, 0, none⟩ (.int .i64 0)).setCell ⟨w.heap.size, 1, none⟩ (.int .i64 0)).heap[w.heap.size]? = some (.cells #[.int .i64 0, .int .i64 0, .int .i64 0, .int .i64 0, .slice none 0 0, .slice none 0 0, .int .i64 0, .int .i64 0, .int .i64 0, .slice none 0 0, .slice none 0 0, .int .i64 0, .int .i64 0] 42) := heap_set_self g1 1 _
    have g3 : (((w9.setCell ⟨w.heap.size, 0, none⟩ (.int .i64 0)).setCell ⟨w.heap.size, 1, none⟩ (.int .i64 0)).setCell ⟨w.heap.size, 2, none⟩ (.int .i64 0)).heap[w.heap.size]? = some (.cells #[.int .i64 0, .int .i64 0, .int .i64 0, .int .i64 0, .slice none 0 0, .slice none 0 0, .int .i64 0, .int .i64 0, .int .i64 0, .slice none 0 0, .slice none 0 0, .int .i64 0, .int .i64 0] 42) := heap_set_self g2 2 _
    have g4 : ((((w9.setCell ⟨w.heap.size, 0, none⟩ (.int .i64 0)).setCell ⟨w.heap.size, 1, none⟩ (.int .i64 0)).setCell ⟨w.heap.size, 2, none⟩ (.int .i64 0)).setCell ⟨w.heap.size, 3, none⟩ (.int .i64 0)).heap[w.heap.size]? = some (.cells #[.int .i64 0, .int .i64 0, .int .i64 0, .int .i64 0, .slice none 0 0, .slice none 0 0, .int .i64 0, .int .i64 0, .int .i64 0, .slice none 0 0, .slice none 0 0, .int .i64 0, .int .i64 0] 42) := heap_set_self g3 3 _
    have g5 : (((((w9.setCell ⟨w.heap.size, 0, none⟩ (.int .i64 0)).setCell ⟨w.heap.size, 1, none⟩ (.int .i64 0)).setCell ⟨w.heap.size, 2, none⟩ (.int .i64 0)).setCell ⟨w.heap.size, 3, none⟩ (.int .i64 0)).setCell ⟨w.heap.size, 4, none⟩ (.slice none 0 0)).heap[w.heap.size]? = some (.cells #[.int .i64 0, .int .i64 0, .int .i64 0, .int .i64 0, .slice none 0 0, .slice none 0 0, .int .i64 0, .int .i64 0, .int .i64 0, .slice none 0 0, .slice none 0 0, .int .i64 0, .int .i64 0] 42) := heap_set_self g4 4 _
    have g6 : ((((((w9.setCell ⟨w.heap.size, 0, none⟩ (.int .i64 0)).setCell ⟨w.heap.size, 1, none⟩ (.int .i64 0)).setCell ⟨w.heap.size, 2, none⟩ (.int .i64 0)).setCell ⟨w.heap.size, 3, none⟩ (.int .i64 0)).setCell ⟨w.heap.size, 4, none⟩ (.slice none 0 0)).setCell ⟨w.heap.size, 5, none⟩ (.slice none 0 0)).heap[w.heap.size]? = some (.cells #[.int .i64 0, .int .i64 0, .int .i64 0, .int .i64 0, .slice none 0 0, .slice none 0 0, .int .i64 0, .int .i64 0, .int .i64 0, .slice none 0 0, .slice none 0 0, .int .i64 0, .int .i64 0] 42) := heap_set_self g5 5 _
    have g7 : (((((((w9.setCell ⟨w.heap.size, 0, none⟩ (.int .i64 0)).setCell ⟨w.heap.size, 1, none⟩ (.int .i64 0)).setCell ⟨w.heap.size, 2, none⟩ (.int .i64 0)).setCell ⟨w.heap.size, 3, none⟩ (.int .i64 0)).setCell ⟨w.heap.size, 4, none⟩ (.slice none 0 0)).setCell ⟨w.heap.size, 5, none⟩ (.slice none 0 0)).setCell ⟨w.heap.size, 6, none⟩ (.int .i64 0)).heap[w.heap.size]? = some (.cells #[.int .i64 0, .int .i64 0, .int .i64 0, .int .i64 0, .slice none 0 0, .slice none 0 0, .int .i64 0, .int .i64 0, .int .i64 0, .slice none 0 0, .slice none 0 0, .int .i64 0, .int .i64 0] 42) := heap_set_self g6 6 _
    have g8 : ((((((((w9.setCell ⟨w.heap.size, 0, none⟩ (.int .i64 0)).setCell ⟨w.heap.size, 1, none⟩ (.int .i64 0)).setCell ⟨w.heap.size, 2, none⟩ (.int .i64 0)).setCell ⟨w.heap.size, 3, none⟩ (.int .i64 0)).setCell ⟨w.heap.size, 4, none⟩ (.slice none 0 0)).setCell ⟨w.heap.size, 5, none⟩ (.slice none 0 0)).setCell ⟨w.heap.size, 6, none⟩ (.int .i64 0)).setCell ⟨w.heap.size, 7, none⟩ (.int .i64 0)).heap[w.heap.size]? = some (.cells #[.int .i64 0, .int .i64 0, .int .i64 0, .int .i64 0, .slice none 0 0, .slice none 0 0, .int .i64 0, .int .i64 0, .int .i64 0, .slice none 0 0, .slice none 0 0, .int .i64 0, .int .i64 0] 42) := heap_set_self g7 7 _
    have g9 : (((((((((w9.setCell ⟨w.heap.size, 0, none⟩ (.int .i64 0)).setCell ⟨w.heap.size, 1, none⟩ (.int .i64 0)).setCell ⟨w.heap.size, 2, none⟩ (.int .i64 0)).setCell ⟨w.heap.size, 3, none⟩ (.int .i64 0)).setCell ⟨w.heap.size, 4, none⟩ (.slice none 0 0)).setCell ⟨w.heap.size, 5, none⟩ (.slice none 0 0)).setCell ⟨w.heap.size, 6, none⟩ (.int .i64 0)).setCell ⟨w.heap.size, 7, none⟩ (.int .i64 0)).setCell ⟨w.heap.size, 8, none⟩ (.int .i64 0)).heap[w.heap.size]? = some (.cells #[.int .i64 0, .int .i64 0, .int .i64 0, .int .i64 0, .slice none 0 0, .slice none 0 0, .int .i64 0, .int .i64 0, .int .i64 0, .slice none 0 0, .slice none 0 0, .int .i64 0, .int .i64 0] 42) := heap_set_self g8 8 _
    have g10 : ((((((((((w9.setCell ⟨w.heap.size, 0, none⟩ (.int .i64 0)).setCell ⟨w.heap.size, 1, none⟩ (.int .i64 0)).setCell ⟨w.heap.size, 2, none⟩ (.int .i64 0)).setCell ⟨w.heap.size, 3, none⟩ (.int .i64 0)).setCell ⟨w.heap.size, 4, none⟩ (.slice none 0 0)).setCell ⟨w.heap.size, 5, none⟩ (.slice none 0 0)).setCell ⟨w.heap.size, 6, none⟩ (.int .i64 0)).setCell ⟨w.heap.size, 7, none⟩ (.int .i64 0)).setCell ⟨w.heap.size, 8, none⟩ (.int .i64 0)).setCell ⟨w.heap.size, 9, none⟩ (.slice none 0 0)).heap[w.heap.size]? = some (.cells #[.int .i64 0, .int .i64 0, .int .i64 0, .int .i64 0, .slice none 0 0, .slice none 0 0, .int .i64 0, .int .i64 0, .int .i64 0, .slice none 0 0, .slice none 0 0, .int .i64 0, .int .i64 0] 42) := heap_set_self g9 9 _
    have g11 : (((((((((((w9.setCell ⟨w.heap.size, 0, none⟩ (.int .i64 0)).setCell ⟨w.heap.size, 1, none⟩ (.int .i64 0)).setCell ⟨w.heap.size, 2, none⟩ (.int .i64 0)).setCell ⟨w.heap.size, 3, none⟩ (.int .i64 0)).setCell ⟨w.heap.size, 4, none⟩ (.slice none 0 0)).setCell ⟨w.heap.size, 5, none⟩ (.slice none 0 0)).setCell ⟨w.heap.size, 6, none⟩ (.int .i64 0)).setCell ⟨w.heap.size, 7, none⟩ (.int .i64 0)).setCell ⟨w.heap.size, 8, none⟩ (.int .i64 0)).setCell ⟨w.heap.size, 9, none⟩ (.slice none 0 0)).setCell ⟨w.heap.size, 10, none⟩ (.slice none 0 0)).heap[w.heap.size]? = some (.cells #[.int .i64 0, .int .i64 0, .int .i64 0, .int .i64 0, .slice none 0 0, .slice none 0 0, .int .i64 0, .int .i64 0, .int .i64 0, .slice none 0 0, .slice none 0 0, .int .i64 0, .int .i64 0] 42) := heap_set_self g10 10 _
    have g12 : ((((((((((((w9.setCell ⟨w.heap.size, 0, none⟩ (.int .i64 0)).setCell ⟨w.heap.size, 1, none⟩ (.int .i64 0)).setCell ⟨w.heap.size, 2, none⟩ (.int .i64 0)).setCell ⟨w.heap.size, 3, none⟩ (.int .i64 0)).setCell ⟨w.heap.size, 4, none⟩ (.slice none 0 0)).setCell ⟨w.heap.size, 5, none⟩ (.slice none 0 0)).setCell ⟨w.heap.size, 6, none⟩ (.int .i64 0)).setCell ⟨w.heap.size, 7, none⟩ (.int .i64 0)).setCell ⟨w.heap.size, 8, none⟩ (.int .i64 0)).setCell ⟨w.heap.size, 9, none⟩ (.slice none 0 0)).setCell ⟨w.heap.size, 10, none⟩ (.slice none 0 0)).setCell ⟨w.heap.size, 11, none⟩ (.int .i64 0)).heap[w.heap.size]? = some (.cells #[.int .i64 0, .int .i64 0, .int .i64 0, .int .i64 0, .slice none 0 0, .slice none 0 0, .int .i64 0, .int .i64 0, .int .i64 0, .slice none 0 0, .slice none 0 0, .int .i64 0, .int .i64 0] 42) := heap_set_self g11 11 _
    have g13 : (((((((((((((w9.setCell ⟨w.heap.size, 0, none⟩ (.int .i64 0)).setCell ⟨w.heap.size, 1, none⟩ (.int .i64 0)).setCell ⟨w.heap.size, 2, none⟩ (.int .i64 0)).setCell ⟨w.heap.size, 3, none⟩ (.int .i64 0)).setCell ⟨w.heap.size, 4, none⟩ (.slice none 0 0)).setCell ⟨w.heap.size, 5, none⟩ (.slice none 0 0)).setCell ⟨w.heap.size, 6, none⟩ (.int .i64 0)).setCell ⟨w.heap.size, 7, none⟩ (.int .i64 0)).setCell ⟨w.heap.size, 8, none⟩ (.int .i64 0)).setCell ⟨w.heap.size, 9, none⟩ (.slice none 0 0)).setCell ⟨w.heap.size, 10, none⟩ (.slice none 0 0)).setCell ⟨w.heap.size, 11, none⟩ (.int .i64 0)).setCell ⟨w.heap.size, 12, none⟩ (.int .i64 0)).heap[w.heap.size]? = some (.cells #[.int .i64 0, .int .i64 0, .int .i64 0, .int .i64 0, .slice none 0 0, .slice none 0 0, .int .i64 0, .int .i64 0, .int .i64 0, .slice none 0 0, .slice none 0 0, .int .i64 0, .int .i64 0] 42) := heap_set_self g12 12 _
    have gO : Only (w.heap.size) w9 (((((((((((((w9.setCell ⟨w.heap.size, 0, none⟩ (.int .i64 0)).setCell ⟨w.heap.size, 1, none⟩ (.int .i64 0)).setCell ⟨w.heap.size, 2, none⟩ (.int .i64 0)).setCell ⟨w.heap.size, 3, none⟩ (.int .i64 0)).setCell ⟨w.heap.size, 4, none⟩ (.slice none 0 0)).setCell ⟨w.heap.size, 5, none⟩ (.slice none 0 0)).setCell ⟨w.heap.size, 6, none⟩ (.int .i64 0)).setCell ⟨w.heap.size, 7, none⟩ (.int .i64 0)).setCell ⟨w.heap.size, 8, none⟩ (.int .i64 0)).setCell ⟨w.heap.size, 9, none⟩ (.slice none 0 0)).setCell ⟨w.heap.size, 10, none⟩ (.slice none 0 0)).setCell ⟨w.heap.size, 11, none⟩ (.int .i64 0)).setCell ⟨w.heap.size, 12, none⟩ (.int .i64 0)) := (((((((((((((Only.refl _ _).set 0 _).set 1 _).set 2 _).set 3 _).set 4 _).set 5 _).set 6 _).set 7 _).set 8 _).set 9 _).set 10 _).set 11 _).set 12 _
    have GI := Lib.hid g13
    have HFIN := Lib.hid (show Src (((((((((((((w9.setCell ⟨w.heap.size, 0, none⟩ (.int .i64 0)).setCell ⟨w.heap.size, 1, none⟩ (.int .i64 0)).setCell ⟨w.heap.size, 2, none⟩ (.int .i64 0)).setCell ⟨w.heap.size, 3, none⟩ (.int .i64 0)).setCell ⟨w.heap.size, 4, none⟩ (.slice none 0 0)).setCell ⟨w.heap.size, 5, none⟩ (.slice none 0 0)).setCell ⟨w.heap.size, 6, none⟩ (.int .i64 0)).setCell ⟨w.heap.size, 7, none⟩ (.int .i64 0)).setCell ⟨w.heap.size, 8, none⟩ (.int .i64 0)).setCell ⟨w.heap.size, 9, none⟩ (.slice none 0 0)).setCell ⟨w.heap.size, 10, none⟩ (.slice none 0 0)).setCell ⟨w.heap.size, 11, none⟩ (.int .i64 0)).setCell ⟨w.heap.size, 12, none⟩ (.int .i64 0)) b S ∧ Only b w (((((((((((((w9.setCell ⟨w.heap.size, 0, none⟩ (.int .i64 0)).setCell ⟨w.heap.size, 1, none⟩ (.int .i64 0)).setCell ⟨w.heap.size, 2, none⟩ (.int .i64 0)).setCell ⟨w.heap.size, 3, none⟩ (.int .i64 0)).setCell ⟨w.heap.size, 4, none⟩ (.slice none 0 0)).setCell ⟨w.heap.size, 5, none⟩ (.slice none 0 0)).setCell ⟨w.heap.size, 6, none⟩ (.int .i64 0)).setCell ⟨w.heap.size, 7, none⟩ (.int .i64 0)).setCell ⟨w.heap.size, 8, none⟩ (.int .i64 0)).setCell ⟨w.heap.size, 9, none⟩ (.slice none 0 0)).setCell ⟨w.heap.size, 10, none⟩ (.slice none 0 0)).setCell ⟨w.heap.size, 11, none⟩ (.int .i64 0)).setCell ⟨w.heap.size, 12, none⟩ (.int .i64 0)) from
      ⟨(gO.block _ (lt_heap s9) (by omega)).trans s9, onlyTwo (e3.trans t9) gO (by omega)⟩)
    clear g1 g2 g3 g4 g5 g6 g7 g8 g9 g10 g11 g12 g13 gO hR8 H8 s9 t9 e0 e3 e5 e7 e8
    go_wp2_with fail
    generalize (((((((((((((w9.setCell ⟨w.heap.size, 0, none⟩ (.int .i64 0)).setCell ⟨w.heap.size, 1, none⟩ (.int .i64 0)).setCell ⟨w.heap.size, 2, none⟩ (.int .i64 0)).setCell ⟨w.heap.size, 3, none⟩ (.int .i64 0)).setCell ⟨w.heap.size, 4, none⟩ (.slice none 0 0)).setCell ⟨w.heap.size, 5, none⟩ (.slice none 0 0)).setCell ⟨w.heap.size, 6, none⟩ (.int .i64 0)).setCell ⟨w.heap.size, 7, none⟩ (.int .i64 0)).setCell ⟨w.heap.size, 8, none⟩ (.int .i64 0)).setCell ⟨w.heap.size, 9, none⟩ (.slice none 0 0)).setCell ⟨w.heap.size, 10, none⟩ (.slice none 0 0)).setCell ⟨w.heap.size, 11, none⟩ (.int .i64 0)).setCell ⟨w.heap.size, 12, none⟩ (.int .i64 0)) = wf at *
    have fi := GI.out
    have t0 := cell_atD fi 0 (v := .int .i64 0) rfl
    have t1 := cell_atD fi 1 (v := .int .i64 0) rfl
    have t2 := cell_atD fi 2 (v := .int .i64 0) rfl
    have t3 := cell_atD fi 3 (v := .int .i64 0) rfl
    have t4 := cell_atD fi 4 (v := .slice none 0 0) rfl
    have t5 := cell_atD fi 5 (v := .slice none 0 0) rfl
    have t6 := cell_atD fi 6 (v := .int .i64 0) rfl
    have t7 := cell_atD fi 7 (v := .int .i64 0) rfl
    have t8 := cell_atD fi 8 (v := .int .i64 0) rfl
    have t9 := cell_atD fi 9 (v := .slice none 0 0) rfl
    have t10 := cell_atD fi 10 (v := .slice none 0 0) rfl
    have t11 := cell_atD fi 11 (v := .int .i64 0) rfl
    have t12 := cell_atD fi 12 (v := .int .i64 0) rfl
    clear fi
    refine bodyPost_ret (v := .agg #[.int .i64 0, .int .i64 0, .int .i64 0, .int .i64 0, .slice none 0 0, .slice none 0 0, .int .i64 0, .int .i64 0, .int .i64 0, .slice none 0 0, .slice none 0 0, .int .i64 0, .int .i64 0]) (by simp [results, Try.results16, go_sem, t0, t1, t2, t3, t4, t5, t6, t7, t8, t9, t10, t11, t12]) rfl ?_
    obtain ⟨e1, e2, e3, e4, e5⟩ := HZ.out
    exact ⟨none, 0, none, 0, none, 0, none, 0, by rw [e1, e2, e3, e4, e5]; rfl, by rw [e2]; exact ⟨World.ownsRow_nil _ _ _ _, World.ownsRow_nil _ _ _ _⟩, by rw [e3]; exact ⟨World.ownsRow_nil _ _ _ _, World.ownsRow_nil _ _ _ _⟩, HFIN.out⟩
end Go.Proofs.Ytjaaddjbmimjoaa
