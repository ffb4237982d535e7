/-
  A configuration out of bytes: conf.Take.
-/
import Derived.Test.YtbjjfidjggagnaaCpA
namespace Go.Proofs.Ytbjjfidjggagnaa
open Go.RowKit
set_option linter.unusedVariables false
set_option linter.unusedSimpArgs false

theorem ok_in (l : List Int) : ∀ k, k ≤ l.length → okK l k = true → ∀ j, j < k → 0 ≤ l.getD j 0 ∧ l.getD j 0 ≤ 4
  | 0, _, _, j, hj => absurd hj (by omega)
  | k + 1, hk, h, j, hj => by
    rw [show okK l (k + 1) = (okK l k && decide (0 ≤ l.getD k 0 ∧ l.getD k 0 ≤ 4) && !decide (l.getD k 0 ∈ l.take k)) from rfl] at h
    simp only [Bool.and_eq_true, decide_eq_true_eq] at h
    by_cases hjk : j = k
    · subst hjk; exact h.1.2
    · exact ok_in l k (by omega) h.1.1 j (by omega)
theorem nodes_in {l : List Int} {least : Nat} (h : nodesB l least = true) : l.length ≤ 3 ∧ ∀ x ∈ l, 0 ≤ x ∧ x ≤ 4 := by
  simp only [nodesB, Bool.and_eq_true, decide_eq_true_eq] at h
  refine ⟨h.2, fun x hx => ?_⟩
  obtain ⟨j, hj, rfl⟩ := List.mem_iff_getElem.1 hx
  have := ok_in l l.length (Nat.le_refl _) h.1.1 j hj
  simpa [List.getD_eq_getElem?_getD, List.getElem?_eq_getElem hj] using this
/-- what a configuration that may be holds -/
theorem may_in {c : CF} (h : mayC c = true) : (∀ x ∈ [c.e, c.b, c.k], 0 ≤ x ∧ x ≤ 1048576) ∧ (c.M.length ≤ 3 ∧ ∀ x ∈ c.M, 0 ≤ x ∧ x ≤ 5) ∧ (c.C.length ≤ 3 ∧ ∀ x ∈ c.C, 0 ≤ x ∧ x ≤ 5) := by
  by_cases hn : noneC c = true
  · simp only [noneC, Bool.and_eq_true, beq_iff_eq] at hn
    obtain ⟨h1, h2, h3, h4, h5⟩ := hn
    have e1 := List.eq_nil_of_length_eq_zero h4
    have e2 := List.eq_nil_of_length_eq_zero h5
    rw [h1, h2, h3, e1, e2]
    simp
  · simp only [mayC, Bool.or_eq_true, Bool.and_eq_true, decide_eq_true_eq, listsC] at h
    obtain ⟨h1, h2, h3, h4, h5, h6, h7, h8⟩ := h.resolve_left hn
    obtain ⟨m1, m2⟩ := nodes_in h6
    obtain ⟨n1, n2⟩ := nodes_in h7
    refine ⟨?_, ⟨m1, fun x hx => by have := m2 x hx; omega⟩, ⟨n1, fun x hx => by have := n2 x hx; omega⟩⟩
    intro x hx
    simp only [List.mem_cons, List.not_mem_nil, or_false] at hx
    omega
theorem slist3 (b : Nat) (l : List Int) (rest : List UInt8) (limit : Int) (hl : 0 ≤ limit ∧ limit ≤ 1048576) (hin : l.length ≤ 3 ∧ ∀ x ∈ l, 0 ≤ x ∧ x ≤ limit) (w : World) (h : Src w b ⟨listN l ++ rest, 0⟩) :
    Calls Try.prog 69 #[.pointer (some ⟨b, 0, none⟩), .int .i64 3, .int .i64 limit] w fun e w' => ∃ a p, e = .returned (.slice a l.length p) ∧ w'.ownsRow w.heap.size 3 1 (.slice a l.length p) l.length (nCells l) ∧ Src w' b ⟨rest, 0⟩ ∧ Only b w w' := by
  obtain ⟨e1, e2⟩ := list_put l rest 3 limit (by have := hin.1; omega) (by omega) hin.2 (by have := hin.1; omega)
  refine (slist_src b _ 3 limit w (by decide) (by omega) h).mono ?_
  rintro ev w' ⟨v, rfl, hv, hs, ho⟩
  rw [e1] at hv
  rw [e2] at hs
  obtain ⟨a, p, rfl⟩ := owns_form hv
  exact ⟨a, p, rfl, hv, hs, ho⟩
theorem onlyPast {w w4 w7 wf : World} {b : Nat} (h1 : Only b w w4) (h2 : Below w4.heap.size w4 w7) (h3 : Only w.heap.size w7 wf) : Only b w wf :=
  ⟨h3.os.trans (h2.os.trans h1.os), h3.tape.trans (h2.tape.trans h1.tape), h3.output.trans (h2.output.trans h1.output), Nat.le_trans h1.size (Nat.le_trans h2.size h3.size), fun k hk hne => (h3.block k (Nat.lt_of_lt_of_le hk (Nat.le_trans h1.size h2.size)) (by omega)).trans ((h2.block k (Nat.lt_of_lt_of_le hk h1.size)).trans (h1.block k hk hne))⟩
theorem onlyBe {y : Nat} {w w' : World} (h : Below w.heap.size w w') : Only y w w' := ⟨h.os, h.tape, h.output, h.size, fun k hk _ => h.block k hk⟩
set_option maxHeartbeats 3200000 in
set_option maxRecDepth 40000 in
theorem ctake (c : CF) (rest : List UInt8) (hm : mayC c = true) (b : Nat) (w : World) (h : Src w b ⟨putC c ++ rest, 0⟩) :
    Calls Try.prog 18 #[.pointer (some ⟨b, 0, none⟩)] w fun ev w' => ∃ d1 s1 d2 s2, ev = .returned (.agg #[.int .i64 c.e, .int .i64 c.b, .int .i64 c.k, .slice d1 c.M.length s1, .slice d2 c.C.length s2]) ∧ CFO c (w.heap.size + 1) w' (.slice d1 c.M.length s1) (.slice d2 c.C.length s2) ∧ Src w' b ⟨rest, 0⟩ ∧ Only b w w' := by
  obtain ⟨hi1, hi2, hi3⟩ := may_in hm
  have hpc : putC c ++ rest = listN [c.e, c.b, c.k] ++ (listN c.M ++ (listN c.C ++ rest)) := by simp [putC]
  rw [hpc] at h
  have hx := heap_alloc_self w (.cells #[.int .i64 0, .int .i64 0, .int .i64 0, .slice none 0 0, .slice none 0 0] 24)
  have hb : Below w.heap.size w (w.alloc (.cells #[.int .i64 0, .int .i64 0, .int .i64 0, .slice none 0 0, .slice none 0 0] 24)) := (Below.refl _ _).alloc (Nat.le_refl _) _
  have hbl : b < w.heap.size := lt_heap h
  have h1 : Src (w.alloc (.cells #[.int .i64 0, .int .i64 0, .int .i64 0, .slice none 0 0, .slice none 0 0] 24)) b _ := below_at hb hbl h
  have c1 := slist3 b [c.e, c.b, c.k] _ 1048576 (by decide) ⟨by simp, hi1⟩ _ h1
  have hz : w.heap.size + 1 ≤ (w.alloc (.cells #[.int .i64 0, .int .i64 0, .int .i64 0, .slice none 0 0, .slice none 0 0] 24)).heap.size := by simp
  have HM := Lib.hid hm
  clear hm hpc h1 hi1 h
  go_enter Try.func18, Try.ntmps18
  go_upto_region 1 with fail
  generalize w.alloc (.cells #[.int .i64 0, .int .i64 0, .int .i64 0, .slice none 0 0, .slice none 0 0] 24) = w1 at *
  have HX := Lib.hid (And.intro hx (And.intro hb hz))
  clear hx hb hz
  go_wp2_with fail
  refine Calls.mono c1 ?_
  rintro ev w2 ⟨a1, p1, rfl, o1, s2, t2⟩
  have c2 := slist3 b c.M _ 5 (by decide) hi2 w2 s2
  have HY := Lib.hid (And.intro o1 t2)
  clear c1 s2 o1 t2 hi2
  go_wp2_with fail
  refine Calls.mono c2 ?_
  rintro ev w3 ⟨a2, p2, rfl, o2, s3, t3⟩
  have c3 := slist3 b c.C _ 5 (by decide) hi3 w3 s3
  have HZ := Lib.hid (And.intro o2 t3)
  clear c2 s3 o2 t3 hi3
  go_wp2_with fail
  refine Calls.mono c3 ?_
  rintro ev w4 ⟨a3, p3, rfl, o3, s4, t4⟩
  obtain ⟨hx, hb, hz⟩ := HX.out
  obtain ⟨o1, t2⟩ := HY.out
  obtain ⟨o2, t3⟩ := HZ.out
  have z2 := t2.size
  have z3 := t3.size
  have z4 := t4.size
  have o1' := own_onlyD (own_onlyD (owns_baseD o1 hz) t3 (by omega)) t4 (by omega)
  have o2' := own_onlyD (owns_baseD o2 (show w.heap.size + 1 ≤ w2.heap.size by omega)) t4 (by omega)
  have o3' := owns_baseD o3 (show w.heap.size + 1 ≤ w3.heap.size by omega)
  have hO : Only b w w4 := ((onlyBe hb).trans t2).trans (t3.trans t4)
  have hx4 : w4.heap[w.heap.size]? = some _ := ((t2.trans (t3.trans t4)).block _ (lt_heap hx) (by omega)).trans hx
  have hz4 : w.heap.size + 1 ≤ w4.heap.size := by omega
  have H4 := Lib.hid (And.intro o1' (And.intro o2' (And.intro o3' (And.intro s4 (And.intro hO (And.intro hx4 hz4))))))
  clear HX HY HZ o1 o2 o3 t2 t3 t4 z2 z3 z4 o1' o2' o3' s4 hO hx4 hz4 hx hb hz c3
  have hP := heap_alloc_self w4 (.cells #[.int .i64 0, .int .i64 0, .int .i64 0, .slice a2 c.M.length p2, .slice a3 c.C.length p3] 24)
  have hb45 : Below w4.heap.size w4 (w4.alloc (.cells #[.int .i64 0, .int .i64 0, .int .i64 0, .slice a2 c.M.length p2, .slice a3 c.C.length p3] 24)) := (Below.refl _ _).alloc (Nat.le_refl _) _
  have HP := Lib.hid (And.intro hP hb45)
  clear hP hb45
  go_upto_region 5 with fail
  generalize w4.alloc (.cells #[.int .i64 0, .int .i64 0, .int .i64 0, .slice a2 c.M.length p2, .slice a3 c.C.length p3] 24) = w5 at *
  obtain ⟨g, off, hgo, hg, hcell⟩ := (SR.owns H4.out.1).int (l := [c.e, c.b, c.k]) (by simp)
  subst hgo
  have k0 : w5.cell? ⟨g, off, none⟩ = some (.int .i64 c.e) := (HP.out.2.cell (p := ⟨g, off, none⟩) hg).trans (by simpa using hcell 0 (by simp))
  have k1 : w5.cell? ⟨g, off + 1, none⟩ = some (.int .i64 c.b) := (HP.out.2.cell (p := ⟨g, off + 1, none⟩) hg).trans (by simpa using hcell 1 (by simp))
  have k2 : w5.cell? ⟨g, off + 2, none⟩ = some (.int .i64 c.k) := (HP.out.2.cell (p := ⟨g, off + 2, none⟩) hg).trans (by simpa using hcell 2 (by simp))
  have pp0 := cell_atD HP.out.1 0 (v := .int .i64 0) rfl
  have pp1 := cell_atD HP.out.1 1 (v := .int .i64 0) rfl
  have pp2 := cell_atD HP.out.1 2 (v := .int .i64 0) rfl
  have pp3 := cell_atD HP.out.1 3 (v := .slice a2 c.M.length p2) rfl
  have pp4 := cell_atD HP.out.1 4 (v := .slice a3 c.C.length p3) rfl
  have fz : ∀ j, w5.frozen? ⟨w4.heap.size, j, none⟩ = false := fun j => by have := HP.out.1; simp [World.frozen?, this]
  have hne : g ≠ w4.heap.size := by omega
  clear hcell
  have HG := Lib.hid (show ((((w5.setCell ⟨w4.heap.size, 0, none⟩ (.int .i64 c.e)).setCell ⟨w4.heap.size, 1, none⟩ (.int .i64 c.b)).setCell ⟨w4.heap.size, 2, none⟩ (.int .i64 c.k))).drew.heap[w4.heap.size]? = some (.cells #[.int .i64 c.e, .int .i64 c.b, .int .i64 c.k, .slice a2 c.M.length p2, .slice a3 c.C.length p3] 24) ∧ Below w4.heap.size w4 ((((w5.setCell ⟨w4.heap.size, 0, none⟩ (.int .i64 c.e)).setCell ⟨w4.heap.size, 1, none⟩ (.int .i64 c.b)).setCell ⟨w4.heap.size, 2, none⟩ (.int .i64 c.k))).drew from ⟨heap_set_self (heap_set_self (heap_set_self HP.out.1 0 _) 1 _) 2 _, below_drew' (((HP.out.2.setCell (p := ⟨w4.heap.size, 0, none⟩) (Nat.le_refl _) _).setCell (p := ⟨w4.heap.size, 1, none⟩) (Nat.le_refl _) _).setCell (p := ⟨w4.heap.size, 2, none⟩) (Nat.le_refl _) _)⟩)
  go_cut [] from 17 to 28 (fun wx => wx.heap[w4.heap.size]? = some (.cells #[.int .i64 c.e, .int .i64 c.b, .int .i64 c.k, .slice a2 c.M.length p2, .slice a3 c.C.length p3] 24) ∧ Below w4.heap.size w4 wx)
  case first =>
    go_region_law (fail)
    all_goals
      go_wp2_with fail
      go_meet
      exact HG.out
  case rest =>
    obtain ⟨hP6, hb6⟩ := hcut
    clear HG k0 k1 k2 fz hne pp0 pp1 pp2 pp3 pp4
    have q0 := cell_atD hP6 0 (v := .int .i64 c.e) rfl
    have q1 := cell_atD hP6 1 (v := .int .i64 c.b) rfl
    have q2 := cell_atD hP6 2 (v := .int .i64 c.k) rfl
    have q3 := cell_atD hP6 3 (v := .slice a2 c.M.length p2) rfl
    have q4 := cell_atD hP6 4 (v := .slice a3 c.C.length p3) rfl
    have h2 : CFat c w4 (.slice a2 c.M.length p2) (.slice a3 c.C.length p3) := ⟨SR.owns H4.out.2.1, SR.owns H4.out.2.2.1⟩
    have cm := cmayD c a2 a3 p2 p3 wc (h2.below hb6)
    rw [HM.out] at cm
    have H6 := Lib.hid (And.intro hP6 hb6)
    clear hP6 hb6 h2
    go_wp2_with fail
    refine Calls.mono cm ?_
    rintro ev w7 ⟨rfl, hb7⟩
    have hb47 := H6.out.2.trans (hb7.mono H6.out.2.size)
    have hP7 := below_at hb7 (lt_heap H6.out.1) H6.out.1
    have hs7 := below_at hb47 (lt_heap H4.out.2.2.2.1) H4.out.2.2.2.1
    have ce := err_some b 0 w7 (Src.c1 hs7)
    have hx7 := below_at hb47 (lt_heap H4.out.2.2.2.2.2.1) H4.out.2.2.2.2.2.1
    have H7 := Lib.hid (And.intro hb47 (And.intro hP7 (And.intro hs7 hx7)))
    clear cm hb7 hb47 hP7 hs7 hx7 q0 q1 q2 q3 q4
    go_wp2_with fail
    refine Calls.mono ce ?_
    rintro ev w8 ⟨rfl, rfl⟩
    have q0 := cell_atD H7.out.2.1 0 (v := .int .i64 c.e) rfl
    have q1 := cell_atD H7.out.2.1 1 (v := .int .i64 c.b) rfl
    have q2 := cell_atD H7.out.2.1 2 (v := .int .i64 c.k) rfl
    have q3 := cell_atD H7.out.2.1 3 (v := .slice a2 c.M.length p2) rfl
    have q4 := cell_atD H7.out.2.1 4 (v := .slice a3 c.C.length p3) rfl
    have z0 := cell_atD H7.out.2.2.2 0 (v := .int .i64 0) rfl
    have z1 := cell_atD H7.out.2.2.2 1 (v := .int .i64 0) rfl
    have z2 := cell_atD H7.out.2.2.2 2 (v := .int .i64 0) rfl
    have z3 := cell_atD H7.out.2.2.2 3 (v := .slice none 0 0) rfl
    have z4 := cell_atD H7.out.2.2.2 4 (v := .slice none 0 0) rfl
    have fz : ∀ j, w7.frozen? ⟨w.heap.size, j, none⟩ = false := fun j => by have := H7.out.2.2.2; simp [World.frozen?, this]
    have g1 : (w7.setCell ⟨w.heap.size, 0, none⟩ (.int .i64 c.e)).heap[w.heap.size]? = some (.cells #[.int .i64 c.e, .int .i64 0, .int .i64 0, .slice none 0 0, .slice none 0 0] 24) := heap_set_self H7.out.2.2.2 0 _
    have g2 : ((w7.setCell ⟨w.heap.size, 0, none⟩ (.int .i64 c.e)).setCell ⟨w.heap.size, 1, none⟩ (.int .i64 c.b)).heap[w.heap.size]? = some (.cells #[.int .i64 c.e, .int .i64 c.b, .int .i64 0, .slice none 0 0, .slice none 0 0] 24) := heap_set_self g1 1 _
    have g3 : (((w7.setCell ⟨w.heap.size, 0, none⟩ (.int .i64 c.e)).setCell ⟨w.heap.size, 1, none⟩ (.int .i64 c.b)).setCell ⟨w.heap.size, 2, none⟩ (.int .i64 c.k)).heap[w.heap.size]? = some (.cells #[.int .i64 c.e, .int .i64 c.b, .int .i64 c.k, .slice none 0 0, .slice none 0 0] 24) := heap_set_self g2 2 _
    have g4 : ((((w7.setCell ⟨w.heap.size, 0, none⟩ (.int .i64 c.e)).setCell ⟨w.heap.size, 1, none⟩ (.int .i64 c.b)).setCell ⟨w.heap.size, 2, none⟩ (.int .i64 c.k)).setCell ⟨w.heap.size, 3, none⟩ (.slice a2 c.M.length p2)).heap[w.heap.size]? = some (.cells #[.int .i64 c.e, .int .i64 c.b, .int .i64 c.k, .slice a2 c.M.length p2, .slice none 0 0] 24) := heap_set_self g3 3 _
    have g5 : (((((w7.setCell ⟨w.heap.size, 0, none⟩ (.int .i64 c.e)).setCell ⟨w.heap.size, 1, none⟩ (.int .i64 c.b)).setCell ⟨w.heap.size, 2, none⟩ (.int .i64 c.k)).setCell ⟨w.heap.size, 3, none⟩ (.slice a2 c.M.length p2)).setCell ⟨w.heap.size, 4, none⟩ (.slice a3 c.C.length p3)).heap[w.heap.size]? = some (.cells #[.int .i64 c.e, .int .i64 c.b, .int .i64 c.k, .slice a2 c.M.length p2, .slice a3 c.C.length p3] 24) := heap_set_self g4 4 _
    have GI := Lib.hid g5
    have GO := Lib.hid (show Only w.heap.size w7 (((((w7.setCell ⟨w.heap.size, 0, none⟩ (.int .i64 c.e)).setCell ⟨w.heap.size, 1, none⟩ (.int .i64 c.b)).setCell ⟨w.heap.size, 2, none⟩ (.int .i64 c.k)).setCell ⟨w.heap.size, 3, none⟩ (.slice a2 c.M.length p2)).setCell ⟨w.heap.size, 4, none⟩ (.slice a3 c.C.length p3)) from ((((((Only.refl _ _).set 0 _).set 1 _).set 2 _).set 3 _).set 4 _))
    clear g1 g2 g3 g4 g5
    go_wp2_with fail
    generalize (((((w7.setCell ⟨w.heap.size, 0, none⟩ (.int .i64 c.e)).setCell ⟨w.heap.size, 1, none⟩ (.int .i64 c.b)).setCell ⟨w.heap.size, 2, none⟩ (.int .i64 c.k)).setCell ⟨w.heap.size, 3, none⟩ (.slice a2 c.M.length p2)).setCell ⟨w.heap.size, 4, none⟩ (.slice a3 c.C.length p3)) = wf at *
    have fi := GI.out
    have t0 := cell_atD fi 0 (v := .int .i64 c.e) rfl
    have t1 := cell_atD fi 1 (v := .int .i64 c.b) rfl
    have t2 := cell_atD fi 2 (v := .int .i64 c.k) rfl
    have t3 := cell_atD fi 3 (v := .slice a2 c.M.length p2) rfl
    have t4 := cell_atD fi 4 (v := .slice a3 c.C.length p3) rfl
    clear fi
    refine bodyPost_ret (v := .agg #[.int .i64 c.e, .int .i64 c.b, .int .i64 c.k, .slice a2 c.M.length p2, .slice a3 c.C.length p3]) (by simp [results, Try.results18, go_sem, t0, t1, t2, t3, t4]) rfl ?_
    obtain ⟨o1, o2, o3, s4, hO, hx4, hz4⟩ := H4.out
    have hb47 := H7.out.1
    refine ⟨a2, p2, a3, p3, rfl, ⟨own_onlyD (owns_below o2 hb47) GO.out (by omega), own_onlyD (owns_below o3 hb47) GO.out (by omega)⟩, (GO.out.block b (lt_heap H7.out.2.2.1) (by omega)).trans H7.out.2.2.1, ?_⟩
    exact onlyPast hO hb47 GO.out
end Go.Proofs.Ytbjjfidjggagnaa
