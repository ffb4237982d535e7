/-
  Several texts, laid together.
-/
import Derived.Test.YtjaaddjbmimjoaaMh29
/-
  tarnref12.TakeState.
-/

namespace Go.Proofs.Ytjaaddjbmimjoaa
open Go.RowKit
set_option linter.unusedVariables false
set_option linter.unusedSimpArgs false

theorem ROk.conf {q : RS} (h : ROk q) : ROk q.confS := by
  have h3 : ROk q.midK := ROk.list (ROk.list (ROk.list h 3 1048576) 3 5) 3 5
  have h4 : ROk q.confS1 := by unfold RS.confS1; split; exact h3; exact h3.fail 3
  unfold RS.confS
  split
  · exact h4
  · exact h4.fail 3
theorem conf_len (q : RS) : q.confS.s.length ≤ q.s.length := by
  have h3 : q.midK.s.length ≤ q.s.length := Nat.le_trans (listS_len _ 3 5) (Nat.le_trans (listS_len _ 3 5) (listS_len q 3 1048576))
  have h4 : q.confS1.s.length ≤ q.s.length := by unfold RS.confS1; split; exact h3; exact Nat.le_trans (fail_len _ 3) h3
  unfold RS.confS
  split
  · exact h4
  · exact Nat.le_trans (fail_len _ 3) h4
/-- what taking a state leaves of a source, and what it tells -/
def RS.staS1 (q : RS) : RS := ((q.numS 1048576).confS.confS).listS 2 1048576
def RS.staL (q : RS) : List Int := ((q.numS 1048576).confS.confS).listV 2 1048576
def RS.staS (q : RS) : RS := if q.staL.length = 2 then q.staS1 else q.staS1.fail 3
def RS.staE (q : RS) : Int := if q.staS.e ≠ 0 then 0 else q.numV 1048576
def RS.staA (q : RS) : CF := if q.staS.e ≠ 0 then ⟨0, 0, 0, [], []⟩ else (q.numS 1048576).confV
def RS.staN (q : RS) : CF := if q.staS.e ≠ 0 then ⟨0, 0, 0, [], []⟩ else (q.numS 1048576).confS.confV
def RS.sta0 (q : RS) : Int := if q.staS.e ≠ 0 then 0 else q.staL.getD 0 0
def RS.sta1 (q : RS) : Int := if q.staS.e ≠ 0 then 0 else q.staL.getD 1 0
theorem ks1 {x y : Nat} {a w' : World} (h : ∀ b o, b ≠ x → b ≠ y → w'.cell? ⟨b, o, none⟩ = a.cell? ⟨b, o, none⟩) (o' : Nat) (v : Value) : ∀ b o, b ≠ x → b ≠ y → (w'.setCell ⟨x, o', none⟩ v).cell? ⟨b, o, none⟩ = a.cell? ⟨b, o, none⟩ := fun b o h1 h2 =>
  (World.cell?_setCell_other _ _ _ _ (by intro e; exact h1 (by injection e with e1; exact e1.symm))).trans (h b o h1 h2)
theorem ks2 {x y : Nat} {a w' : World} (h : ∀ b o, b ≠ x → b ≠ y → w'.cell? ⟨b, o, none⟩ = a.cell? ⟨b, o, none⟩) (o' : Nat) (v : Value) : ∀ b o, b ≠ x → b ≠ y → (w'.setCell ⟨y, o', none⟩ v).cell? ⟨b, o, none⟩ = a.cell? ⟨b, o, none⟩ := fun b o h1 h2 =>
  (World.cell?_setCell_other _ _ _ _ (by intro e; exact h2 (by injection e with e1; exact e1.symm))).trans (h b o h1 h2)
theorem ksd {x y : Nat} {a w' : World} (h : ∀ b o, b ≠ x → b ≠ y → w'.cell? ⟨b, o, none⟩ = a.cell? ⟨b, o, none⟩) : ∀ b o, b ≠ x → b ≠ y → w'.drew.cell? ⟨b, o, none⟩ = a.cell? ⟨b, o, none⟩ := h
def RST (w : World) (E : Int) (a n : CF) (s0 s1 : Int) (S : RS) (ev : Ending) (w' : World) : Prop :=
  ∃ a2 p2 a3 p3 a4 p4 a5 p5, ev = .returned (.tuple #[rC S, .agg #[.int .i64 E, .int .i64 a.e, .int .i64 a.b, .int .i64 a.k, .slice a2 a.M.length p2, .slice a3 a.C.length p3, .int .i64 n.e, .int .i64 n.b, .int .i64 n.k, .slice a4 n.M.length p4, .slice a5 n.C.length p5, .int .i64 s0, .int .i64 s1]]) ∧ CFO a w.heap.size w' (.slice a2 a.M.length p2) (.slice a3 a.C.length p3) ∧ CFO n w.heap.size w' (.slice a4 n.M.length p4) (.slice a5 n.C.length p5) ∧ Below w.heap.size w w'
theorem sta_a (q : RS) (h : q.staS.e ≠ 0) : q.staE = 0 ∧ q.staA = ⟨0, 0, 0, [], []⟩ ∧ q.staN = ⟨0, 0, 0, [], []⟩ ∧ q.sta0 = 0 ∧ q.sta1 = 0 :=
  ⟨by rw [RS.staE, if_pos h], by rw [RS.staA, if_pos h], by rw [RS.staN, if_pos h], by rw [RS.sta0, if_pos h], by rw [RS.sta1, if_pos h]⟩
theorem sta_b (q : RS) (h : q.staS1.e ≠ 0) : q.staS = q.staS1 := by
  unfold RS.staS
  split
  · rfl
  · exact fail_on h 3
theorem sta_c (q : RS) (h : q.staS1.e = 0) (k : q.staL.length ≠ 2) : q.staS = q.staS1.fail 3 ∧ q.staS.e ≠ 0 := by
  have h2 : q.staS = q.staS1.fail 3 := by unfold RS.staS; rw [if_neg k]
  exact ⟨h2, by rw [h2, fail_off h 3 (by decide)]; decide⟩
theorem sta_d (q : RS) (h : q.staS1.e = 0) (k : q.staL.length = 2) : q.staS = q.staS1 ∧ q.staE = q.numV 1048576 ∧ q.staA = (q.numS 1048576).confV ∧ q.staN = (q.numS 1048576).confS.confV ∧ q.sta0 = q.staL.getD 0 0 ∧ q.sta1 = q.staL.getD 1 0 := by
  have h2 : q.staS = q.staS1 := by unfold RS.staS; rw [if_pos k]
  have h3 : ¬ q.staS.e ≠ 0 := by rw [h2]; simpa using h
  exact ⟨h2, by rw [RS.staE, if_neg h3], by rw [RS.staA, if_neg h3], by rw [RS.staN, if_neg h3], by rw [RS.sta0, if_neg h3], by rw [RS.sta1, if_neg h3]⟩
set_option maxHeartbeats 25600000 in
set_option maxRecDepth 100000 in
theorem stakeR (q : RS) (w : World) (hok : ROk q) (hl : q.s.length ≤ 1000000) :
    Calls Try.prog 17 #[rC q] w (RST w q.staE q.staA q.staN q.sta0 q.sta1 q.staS) := by
  have k1 := hok.num 1048576
  have l1 := Nat.le_trans (numS_len q 1048576) hl
  have k2 := k1.conf
  have l2 := Nat.le_trans (conf_len _) l1
  have k3 := k2.conf
  have l3 := Nat.le_trans (conf_len _) l2
  have c1 : ∀ w, Calls Try.prog 56 #[rC q, .int .i64 1048576] w fun e w' => e = .returned (.tuple #[rC (q.numS 1048576), .int .i64 (q.numV 1048576 : Nat)]) ∧ Below w.heap.size w w' := fun w => rintG q 1048576 w (by decide) (by decide) hok hl
  have c2 := fun w => ctakeR (q.numS 1048576) w k1 l1
  have c3 := fun w => ctakeR (q.numS 1048576).confS w k2 l2
  have c4 : ∀ w, Calls Try.prog 61 #[rC (q.numS 1048576).confS.confS, .int .i64 2, .int .i64 1048576] w (RListP w (q.numS 1048576).confS.confS 2 1048576) := fun w => rlist _ 2 1048576 w k3 l3 (by decide) (by decide) (by decide) (by decide)
  have ca := sta_a q
  have cb := sta_b q
  have cc := sta_c q
  have cd := sta_d q
  unfold RListP at c4
  unfold RCT at c2 c3
  obtain ⟨S, hS⟩ : ∃ S, q.staS = S := ⟨_, rfl⟩
  obtain ⟨FE, hFE⟩ : ∃ S, q.staE = S := ⟨_, rfl⟩
  obtain ⟨FA, hFA⟩ : ∃ S, q.staA = S := ⟨_, rfl⟩
  obtain ⟨FN, hFN⟩ : ∃ S, q.staN = S := ⟨_, rfl⟩
  obtain ⟨F0, hF0⟩ : ∃ S, q.sta0 = S := ⟨_, rfl⟩
  obtain ⟨F1, hF1⟩ : ∃ S, q.sta1 = S := ⟨_, rfl⟩
  obtain ⟨s1, hs1⟩ : ∃ S, q.staS1 = S := ⟨_, rfl⟩
  obtain ⟨L, hL⟩ : ∃ S, q.staL = S := ⟨_, rfl⟩
  have hs1' : ((q.numS 1048576).confS.confS).listS 2 1048576 = s1 := hs1
  have hL' : ((q.numS 1048576).confS.confS).listV 2 1048576 = L := hL
  obtain ⟨q1, hq1⟩ : ∃ q1, q.numS 1048576 = q1 := ⟨_, rfl⟩
  rw [hq1] at hs1' hL'
  obtain ⟨q2, hq2⟩ : ∃ q1', q1.confS = q1' := ⟨_, rfl⟩
  rw [hq2] at hs1' hL'
  obtain ⟨q3, hq3⟩ : ∃ q1', q2.confS = q1' := ⟨_, rfl⟩
  rw [hq3] at hs1' hL'
  have hLl := listV_len q3 2 1048576 (by decide)
  rw [hL'] at hLl
  obtain ⟨U, hU⟩ : ∃ U : Int, (q.numV 1048576 : Int) = U := ⟨_, rfl⟩
  obtain ⟨a, ha⟩ : ∃ c, q1.confV = c := ⟨_, rfl⟩
  obtain ⟨n, hn⟩ : ∃ c, q2.confV = c := ⟨_, rfl⟩
  rw [hS, hFE, hFA, hFN, hF0, hF1] at ca
  rw [hS, hs1] at cb
  rw [hS, hs1, hL] at cc
  rw [hS, hs1, hL, hFE, hFA, hFN, hF0, hF1, hU, hq1, ha, hq2, hn] at cd
  rw [hS, hFE, hFA, hFN, hF0, hF1]
  simp only [hq1, hU] at c1
  simp only [hq1, ha, hq2] at c2
  simp only [hq1, hq2, hq3, hn] at c3
  simp only [hq1, hq2, hq3, hs1', hL'] at c4
  have HA := Lib.hid (And.intro ca (And.intro cb (And.intro cc (And.intro cd hLl))))
  have C2 := Lib.hid c2
  have C3 := Lib.hid c3
  have C4 := Lib.hid c4
  clear hS hFE hFA hFN hF0 hF1 hs1 hL hs1' hL' hq1 hq2 hq3 hU ha hn ca cb cc cd hok hl k1 l1 k2 l2 k3 l3 c2 c3 c4 hLl
  obtain ⟨s, er⟩ := q
  unfold rC at c1
  unfold RST rC
  simp only at c1 ⊢
  obtain ⟨h0, h1, h2, hb, hz⟩ := three_alloc w #[.string ⟨s.toArray⟩, .int .i64 er] #[.string ⟨#[]⟩, .int .i64 0] #[.int .i64 0, .int .i64 0, .int .i64 0, .int .i64 0, .slice none 0 0, .slice none 0 0, .int .i64 0, .int .i64 0, .int .i64 0, .slice none 0 0, .slice none 0 0, .int .i64 0, .int .i64 0] 35 35 42
  go_enter Try.func17, Try.ntmps17
  go_upto_region 1 with fail
  generalize ((w.alloc (.cells #[.string ⟨s.toArray⟩, .int .i64 er] 35)).alloc (.cells #[.string ⟨#[]⟩, .int .i64 0] 35)).alloc (.cells #[.int .i64 0, .int .i64 0, .int .i64 0, .int .i64 0, .slice none 0 0, .slice none 0 0, .int .i64 0, .int .i64 0, .int .i64 0, .slice none 0 0, .slice none 0 0, .int .i64 0, .int .i64 0] 42) = w1 at *
  have c0 := cell_atD h0 0 (v := .string ⟨s.toArray⟩) rfl
  have c01 := cell_atD h0 1 (v := .int .i64 er) rfl
  have H1 := Lib.hid (And.intro h1 (And.intro h2 (And.intro hb hz)))
  clear h0 h1 h2 hb hz
  go_wp2_with fail
  refine Calls.mono (c1 w1) ?_
  rintro ev w2 ⟨rfl, hb2⟩
  obtain ⟨h1, h2, hb, hz⟩ := H1.out
  have hz2 : w.heap.size + 3 ≤ w2.heap.size := by have := hb2.size; omega
  have hP := heap_alloc_self w2 (.cells #[.string ⟨q1.s.toArray⟩, .int .i64 q1.e] 35)
  have hb23 : Below w2.heap.size w2 (w2.alloc (.cells #[.string ⟨q1.s.toArray⟩, .int .i64 q1.e] 35)) := (Below.refl _ _).alloc (Nat.le_refl _) _
  have HT := Lib.hid (And.intro (show Thr #[.int .i64 0, .int .i64 0, .int .i64 0, .int .i64 0, .slice none 0 0, .slice none 0 0, .int .i64 0, .int .i64 0, .int .i64 0, .slice none 0 0, .slice none 0 0, .int .i64 0, .int .i64 0] 42 w2.heap.size w q1 (w2.alloc (.cells #[.string ⟨q1.s.toArray⟩, .int .i64 q1.e] 35)) from
    ⟨below_at (hb2.trans (hb23.mono hb2.size)) (lt_heap h1) h1, below_at (hb2.trans (hb23.mono hb2.size)) (lt_heap h2) h2, hP, hb.trans ((hb2.trans (hb23.mono hb2.size)).mono hb.size), hz2⟩) (show w2.heap.size < (w2.alloc (.cells #[.string ⟨q1.s.toArray⟩, .int .i64 q1.e] 35)).heap.size by simp))
  clear h1 h2 hb hz hb2 hz2 hP hb23 H1 c0 c01 c1
  go_upto_region 2 with fail
  generalize w2.alloc (.cells #[.string ⟨q1.s.toArray⟩, .int .i64 q1.e] 35) = w3 at *
  obtain ⟨Nq, hNq⟩ : ∃ N, w2.heap.size = N := ⟨_, rfl⟩
  rw [hNq] at HT
  try rw [hNq]
  clear hNq
  obtain ⟨b0, b1, bf⟩ := two_cellsD HT.out.1.2.2.1
  have ci := C2.out w3
  unfold rC at ci
  go_wp2_with fail
  refine Calls.mono ci ?_
  rintro ev w4 ⟨a2, p2, a3, p3, rfl, hL4, hb4⟩
  have HT4 := HT.out.1.below hb4
  have hqc : Nq < w4.heap.size := Nat.lt_of_lt_of_le HT.out.2 hb4.size
  have hL : CFO a (Nq + 1) w4 (.slice a2 a.M.length p2) (.slice a3 a.C.length p3) := CFO.base hL4 HT.out.2
  clear b0 b1 bf ci hb4 C2 HT hL4
  obtain ⟨b0, b1, bf⟩ := two_cellsD HT4.2.2.1
  have s1' : (w4.setCell ⟨Nq, 0, none⟩ (.string ⟨q2.s.toArray⟩)).heap[Nq]? = some (.cells #[.string ⟨q2.s.toArray⟩, .int .i64 q1.e] 35) := heap_set_self HT4.2.2.1 0 _
  have s2 : ((w4.setCell ⟨Nq, 0, none⟩ (.string ⟨q2.s.toArray⟩)).setCell ⟨Nq, 1, none⟩ (.int .i64 q2.e)).heap[Nq]? = some (.cells #[.string ⟨q2.s.toArray⟩, .int .i64 q2.e] 35) := heap_set_self s1' 1 _
  have sO : Only (Nq) w4 ((w4.setCell ⟨Nq, 0, none⟩ (.string ⟨q2.s.toArray⟩)).setCell ⟨Nq, 1, none⟩ (.int .i64 q2.e)) := ((Only.refl _ _).set 0 _).set 1 _
  have hz5 : ((w4.setCell ⟨Nq, 0, none⟩ (.string ⟨q2.s.toArray⟩)).setCell ⟨Nq, 1, none⟩ (.int .i64 q2.e)).heap.size = w4.heap.size := by simp
  have hP := heap_alloc_self ((w4.setCell ⟨Nq, 0, none⟩ (.string ⟨q2.s.toArray⟩)).setCell ⟨Nq, 1, none⟩ (.int .i64 q2.e)) (.cells #[.int .i64 a.e, .int .i64 a.b, .int .i64 a.k, .slice a2 a.M.length p2, .slice a3 a.C.length p3] 24)
  have hb56 : Below ((w4.setCell ⟨Nq, 0, none⟩ (.string ⟨q2.s.toArray⟩)).setCell ⟨Nq, 1, none⟩ (.int .i64 q2.e)).heap.size ((w4.setCell ⟨Nq, 0, none⟩ (.string ⟨q2.s.toArray⟩)).setCell ⟨Nq, 1, none⟩ (.int .i64 q2.e)) (((w4.setCell ⟨Nq, 0, none⟩ (.string ⟨q2.s.toArray⟩)).setCell ⟨Nq, 1, none⟩ (.int .i64 q2.e)).alloc (.cells #[.int .i64 a.e, .int .i64 a.b, .int .i64 a.k, .slice a2 a.M.length p2, .slice a3 a.C.length p3] 24)) := (Below.refl _ _).alloc (Nat.le_refl _) _
  rw [hz5] at hP
  have H5 := Lib.hid (And.intro ((HT4.over sO s2).below hb56) (And.intro hP (And.intro ((hL.only sO (by omega)).below hb56) (show Nq < w4.heap.size ∧ w4.heap.size < (((w4.setCell ⟨Nq, 0, none⟩ (.string ⟨q2.s.toArray⟩)).setCell ⟨Nq, 1, none⟩ (.int .i64 q2.e)).alloc (.cells #[.int .i64 a.e, .int .i64 a.b, .int .i64 a.k, .slice a2 a.M.length p2, .slice a3 a.C.length p3] 24)).heap.size from ⟨hqc, by simp⟩))))
  clear HT4 hL s1' s2 sO hz5 hP hb56
  go_upto_region 3 with fail
  clear b0 b1 bf
  generalize ((w4.setCell ⟨Nq, 0, none⟩ (.string ⟨q2.s.toArray⟩)).setCell ⟨Nq, 1, none⟩ (.int .i64 q2.e)).alloc (.cells #[.int .i64 a.e, .int .i64 a.b, .int .i64 a.k, .slice a2 a.M.length p2, .slice a3 a.C.length p3] 24) = w5 at *
  obtain ⟨Na, hNa⟩ : ∃ N, w4.heap.size = N := ⟨_, rfl⟩
  rw [hNa] at H5
  try rw [hNa]
  clear hNa hqc
  obtain ⟨b0, b1, bf⟩ := two_cellsD H5.out.1.2.2.1
  have ci := C3.out w5
  unfold rC at ci
  go_wp2_with fail
  refine Calls.mono ci ?_
  rintro ev w6 ⟨a4, p4, a5, p5, rfl, hL6, hb6⟩
  have HT6 := H5.out.1.below hb6
  have hqa := H5.out.2.2.2.1
  have hA6 := below_at hb6 (lt_heap H5.out.2.1) H5.out.2.1
  have hLA := H5.out.2.2.1.below hb6
  have hqc : Na < w6.heap.size := Nat.lt_of_lt_of_le H5.out.2.2.2.2 hb6.size
  have hL : CFO n (Nq + 1) w6 (.slice a4 n.M.length p4) (.slice a5 n.C.length p5) := CFO.base hL6 (by have := H5.out.2.2.2.2; omega)
  clear b0 b1 bf ci hb6 C3 H5 hL6
  obtain ⟨b0, b1, bf⟩ := two_cellsD HT6.2.2.1
  have s1' : (w6.setCell ⟨Nq, 0, none⟩ (.string ⟨q3.s.toArray⟩)).heap[Nq]? = some (.cells #[.string ⟨q3.s.toArray⟩, .int .i64 q2.e] 35) := heap_set_self HT6.2.2.1 0 _
  have s2 : ((w6.setCell ⟨Nq, 0, none⟩ (.string ⟨q3.s.toArray⟩)).setCell ⟨Nq, 1, none⟩ (.int .i64 q3.e)).heap[Nq]? = some (.cells #[.string ⟨q3.s.toArray⟩, .int .i64 q3.e] 35) := heap_set_self s1' 1 _
  have sO : Only (Nq) w6 ((w6.setCell ⟨Nq, 0, none⟩ (.string ⟨q3.s.toArray⟩)).setCell ⟨Nq, 1, none⟩ (.int .i64 q3.e)) := ((Only.refl _ _).set 0 _).set 1 _
  have hA7 := (sO.block Na (lt_heap hA6) (by omega)).trans hA6
  have hz5 : ((w6.setCell ⟨Nq, 0, none⟩ (.string ⟨q3.s.toArray⟩)).setCell ⟨Nq, 1, none⟩ (.int .i64 q3.e)).heap.size = w6.heap.size := by simp
  have hP := heap_alloc_self ((w6.setCell ⟨Nq, 0, none⟩ (.string ⟨q3.s.toArray⟩)).setCell ⟨Nq, 1, none⟩ (.int .i64 q3.e)) (.cells #[.int .i64 n.e, .int .i64 n.b, .int .i64 n.k, .slice a4 n.M.length p4, .slice a5 n.C.length p5] 24)
  have hb56 : Below ((w6.setCell ⟨Nq, 0, none⟩ (.string ⟨q3.s.toArray⟩)).setCell ⟨Nq, 1, none⟩ (.int .i64 q3.e)).heap.size ((w6.setCell ⟨Nq, 0, none⟩ (.string ⟨q3.s.toArray⟩)).setCell ⟨Nq, 1, none⟩ (.int .i64 q3.e)) (((w6.setCell ⟨Nq, 0, none⟩ (.string ⟨q3.s.toArray⟩)).setCell ⟨Nq, 1, none⟩ (.int .i64 q3.e)).alloc (.cells #[.int .i64 n.e, .int .i64 n.b, .int .i64 n.k, .slice a4 n.M.length p4, .slice a5 n.C.length p5] 24)) := (Below.refl _ _).alloc (Nat.le_refl _) _
  have hA8 := below_at hb56 (lt_heap hA7) hA7
  rw [hz5] at hP
  have H7 := Lib.hid (And.intro ((HT6.over sO s2).below hb56) (And.intro hA8 (And.intro hP (And.intro ((hLA.only sO (by omega)).below hb56) (And.intro ((hL.only sO (by omega)).below hb56) (show Nq < Na ∧ Na < w6.heap.size ∧ w6.heap.size < (((w6.setCell ⟨Nq, 0, none⟩ (.string ⟨q3.s.toArray⟩)).setCell ⟨Nq, 1, none⟩ (.int .i64 q3.e)).alloc (.cells #[.int .i64 n.e, .int .i64 n.b, .int .i64 n.k, .slice a4 n.M.length p4, .slice a5 n.C.length p5] 24)).heap.size from ⟨hqa, hqc, by simp⟩))))))
  have hqq : Nq < w6.heap.size := by omega
  clear HT6 hL hLA s1' s2 sO hz5 hP hb56 hA6 hA7 hA8 hqa
  go_upto_region 4 with fail
  clear b0 b1 bf
  generalize ((w6.setCell ⟨Nq, 0, none⟩ (.string ⟨q3.s.toArray⟩)).setCell ⟨Nq, 1, none⟩ (.int .i64 q3.e)).alloc (.cells #[.int .i64 n.e, .int .i64 n.b, .int .i64 n.k, .slice a4 n.M.length p4, .slice a5 n.C.length p5] 24) = w7 at *
  obtain ⟨Nn, hNn⟩ : ∃ N, w6.heap.size = N := ⟨_, rfl⟩
  rw [hNn] at H7
  rw [hNn] at hqq
  try rw [hNn]
  clear hNn hqc hqq
  obtain ⟨b0, b1, bf⟩ := two_cellsD H7.out.1.2.2.1
  have ci := C4.out w7
  unfold rC at ci
  go_wp2_with fail
  refine Calls.mono ci ?_
  rintro ev w8 ⟨v8, rfl, o8, hb8⟩
  obtain ⟨a8, p8, rfl⟩ := owns_form3 o8
  obtain ⟨nL, hnL⟩ : ∃ n, L.length = n := ⟨_, rfl⟩
  rw [hnL] at o8
  try rw [hnL]
  have HNL := Lib.hid hnL
  clear b0 b1 bf ci C4 hnL
  have HT8 := H7.out.1.below hb8
  obtain ⟨b0, b1, bf⟩ := two_cellsD HT8.2.2.1
  have s1' : (w8.setCell ⟨Nq, 0, none⟩ (.string ⟨s1.s.toArray⟩)).heap[Nq]? = some (.cells #[.string ⟨s1.s.toArray⟩, .int .i64 q3.e] 35) := heap_set_self HT8.2.2.1 0 _
  have s2 : ((w8.setCell ⟨Nq, 0, none⟩ (.string ⟨s1.s.toArray⟩)).setCell ⟨Nq, 1, none⟩ (.int .i64 s1.e)).heap[Nq]? = some (.cells #[.string ⟨s1.s.toArray⟩, .int .i64 s1.e] 35) := heap_set_self s1' 1 _
  have sO : Only (Nq) w8 ((w8.setCell ⟨Nq, 0, none⟩ (.string ⟨s1.s.toArray⟩)).setCell ⟨Nq, 1, none⟩ (.int .i64 s1.e)) := ((Only.refl _ _).set 0 _).set 1 _
  have hqa := H7.out.2.2.2.2.2.1
  have hqn := H7.out.2.2.2.2.2.2.1
  have hA8 := below_at hb8 (lt_heap H7.out.2.1) H7.out.2.1
  have hN8 := below_at hb8 (lt_heap H7.out.2.2.1) H7.out.2.2.1
  have H9 := Lib.hid (And.intro (HT8.over sO s2) (And.intro ((sO.block Na (lt_heap hA8) (by omega)).trans hA8) (And.intro ((sO.block Nn (lt_heap hN8) (by omega)).trans hN8) (And.intro ((H7.out.2.2.2.1.below hb8).only sO (by omega)) (And.intro ((H7.out.2.2.2.2.1.below hb8).only sO (by omega)) (And.intro (show Nq < Na ∧ Na < Nn from ⟨hqa, hqn⟩) (own_onlyD (owns_baseD o8 (show Nn + 1 ≤ w7.heap.size from H7.out.2.2.2.2.2.2.2)) sO (by omega))))))))
  clear HT8 s1' s2 sO hA8 hN8 hqa hqn H7 o8 hb8
  go_upto_region 5 with fail
  clear b0 b1 bf
  generalize ((w8.setCell ⟨Nq, 0, none⟩ (.string ⟨s1.s.toArray⟩)).setCell ⟨Nq, 1, none⟩ (.int .i64 s1.e)) = w9 at *
  obtain ⟨b0, b1, bf⟩ := two_cellsD H9.out.1.2.2.1
  by_cases hE : s1.e = 0
  · have u1 : (s1.e != 0) = false := by simpa using hE
    have hE0 := Lib.hid hE
    clear hE
    by_cases h2 : nL = 2
    · subst h2
      obtain ⟨hSs, hEe, hAa, hNn, h0, h1⟩ := HA.out.2.2.2.1 hE0.out HNL.out
      subst hSs hEe hAa hNn
      obtain ⟨g, off, hgo, hg, hcell⟩ := (show SR w9 (.slice a8 2 p8) 1 2 (nCells L) from SR.owns H9.out.2.2.2.2.2.2).int (l := L) (by omega)
      subst hgo
      have hgb := (H9.out.2.2.2.2.2.2.lt g rfl).1
      have g0 := hcell 0 (by omega)
      have g1 := hcell 1 (by omega)
      rw [← h0] at g0
      rw [← h1] at g1
      simp only [Nat.add_zero] at g0
      have z0 := cell_atD H9.out.1.1 0 (v := .string ⟨#[]⟩) rfl
      have z1 := cell_atD H9.out.1.1 1 (v := .int .i64 0) rfl
      have zf : ∀ j, w9.frozen? ⟨w.heap.size + 1, j, none⟩ = false := fun j => by simp [World.frozen?, H9.out.1.1]
      have x0 := cell_atD H9.out.1.2.1 0 (v := .int .i64 0) rfl
      have x1 := cell_atD H9.out.1.2.1 1 (v := .int .i64 0) rfl
      have x2 := cell_atD H9.out.1.2.1 2 (v := .int .i64 0) rfl
      have x3 := cell_atD H9.out.1.2.1 3 (v := .int .i64 0) rfl
      have x4 := cell_atD H9.out.1.2.1 4 (v := .slice none 0 0) rfl
      have x5 := cell_atD H9.out.1.2.1 5 (v := .slice none 0 0) rfl
      have x6 := cell_atD H9.out.1.2.1 6 (v := .int .i64 0) rfl
      have x7 := cell_atD H9.out.1.2.1 7 (v := .int .i64 0) rfl
      have x8 := cell_atD H9.out.1.2.1 8 (v := .int .i64 0) rfl
      have x9 := cell_atD H9.out.1.2.1 9 (v := .slice none 0 0) rfl
      have x10 := cell_atD H9.out.1.2.1 10 (v := .slice none 0 0) rfl
      have x11 := cell_atD H9.out.1.2.1 11 (v := .int .i64 0) rfl
      have x12 := cell_atD H9.out.1.2.1 12 (v := .int .i64 0) rfl
      have xf : ∀ j, w9.frozen? ⟨w.heap.size + 2, j, none⟩ = false := fun j => by simp [World.frozen?, H9.out.1.2.1]
      have d0 := cell_atD H9.out.2.1 0 (v := .int .i64 FA.e) rfl
      have d1 := cell_atD H9.out.2.1 1 (v := .int .i64 FA.b) rfl
      have d2 := cell_atD H9.out.2.1 2 (v := .int .i64 FA.k) rfl
      have d3 := cell_atD H9.out.2.1 3 (v := .slice a2 FA.M.length p2) rfl
      have d4 := cell_atD H9.out.2.1 4 (v := .slice a3 FA.C.length p3) rfl
      have k0 := cell_atD H9.out.2.2.1 0 (v := .int .i64 FN.e) rfl
      have k1 := cell_atD H9.out.2.2.1 1 (v := .int .i64 FN.b) rfl
      have k2 := cell_atD H9.out.2.2.1 2 (v := .int .i64 FN.k) rfl
      have k3 := cell_atD H9.out.2.2.1 3 (v := .slice a4 FN.M.length p4) rfl
      have k4 := cell_atD H9.out.2.2.1 4 (v := .slice a5 FN.C.length p5) rfl
      have hq3 := H9.out.1.2.2.2.2
      have hqa := H9.out.2.2.2.2.2.1.1
      have hqn := H9.out.2.2.2.2.2.1.2
      have n1 : Nq ≠ w.heap.size + 1 := by omega
      have n2 : Nq ≠ w.heap.size + 2 := by omega
      have n3 : Na ≠ w.heap.size + 1 := by omega
      have n4 : Na ≠ w.heap.size + 2 := by omega
      have n5 : Nn ≠ w.heap.size + 1 := by omega
      have n6 : Nn ≠ w.heap.size + 2 := by omega
      have n7 : g ≠ w.heap.size + 1 := by omega
      have n8 : g ≠ w.heap.size + 2 := by omega
      have m1 := n1.symm
      have m2 := n2.symm
      have m3 := n3.symm
      have m4 := n4.symm
      have m5 := n5.symm
      have m6 := n6.symm
      have m7 := n7.symm
      have m8 := n8.symm
      have A1 : (w9.setCell ⟨w.heap.size + 1, 0, none⟩ (.string ⟨S.s.toArray⟩)).heap[w.heap.size + 1]? = some (.cells #[.string ⟨S.s.toArray⟩, .int .i64 0] 35) := heap_set_self H9.out.1.1 0 _
      have A2 : ((w9.setCell ⟨w.heap.size + 1, 0, none⟩ (.string ⟨S.s.toArray⟩)).setCell ⟨w.heap.size + 1, 1, none⟩ (.int .i64 S.e)).heap[w.heap.size + 1]? = some (.cells #[.string ⟨S.s.toArray⟩, .int .i64 S.e] 35) := heap_set_self A1 1 _
      have AO : Only (w.heap.size + 1) w9 ((w9.setCell ⟨w.heap.size + 1, 0, none⟩ (.string ⟨S.s.toArray⟩)).setCell ⟨w.heap.size + 1, 1, none⟩ (.int .i64 S.e)) := ((Only.refl _ _).set 0 _).set 1 _
      have hC1 := (AO.block _ (lt_heap H9.out.1.2.1) (by omega)).trans H9.out.1.2.1
      have g1 : (((w9.setCell ⟨w.heap.size + 1, 0, none⟩ (.string ⟨S.s.toArray⟩)).setCell ⟨w.heap.size + 1, 1, none⟩ (.int .i64 S.e)).setCell ⟨w.heap.size + 2, 0, none⟩ (.int .i64 FE)).heap[w.heap.size + 2]? = some (.cells #[.int .i64 FE, .int .i64 0, .int .i64 0, .int .i64 0, .slice none 0 0, .slice none 0 0, .int .i64 0, .int .i64 0, .int .i64 0, .slice none 0 0, .slice none 0 0, .int .i64 0, .int .i64 0] 42) := heap_set_self hC1 0 _
      have g2 : ((((w9.setCell ⟨w.heap.size + 1, 0, none⟩ (.string ⟨S.s.toArray⟩)).setCell ⟨w.heap.size + 1, 1, none⟩ (.int .i64 S.e)).setCell ⟨w.heap.size + 2, 0, none⟩ (.int .i64 FE)).setCell ⟨w.heap.size + 2, 1, none⟩ (.int .i64 FA.e)).heap[w.heap.size + 2]? = some (.cells #[.int .i64 FE, .int .i64 FA.e, .int .i64 0, .int .i64 0, .slice none 0 0, .slice none 0 0, .int .i64 0, .int .i64 0, .int .i64 0, .slice none 0 0, .slice none 0 0, .int .i64 0, .int .i64 0] 42) := heap_set_self g1 1 _
      have g3 : (((((w9.setCell ⟨w.heap.size + 1, 0, none⟩ (.string ⟨S.s.toArray⟩)).setCell ⟨w.heap.size + 1, 1, none⟩ (.int .i64 S.e)).setCell ⟨w.heap.size + 2, 0, none⟩ (.int .i64 FE)).setCell ⟨w.heap.size + 2, 1, none⟩ (.int .i64 FA.e)).setCell ⟨w.heap.size + 2, 2, none⟩ (.int .i64 FA.b)).heap[w.heap.size + 2]? = some (.cells #[.int .i64 FE, .int .i64 FA.e, .int .i64 FA.b, .int .i64 0, .slice none 0 0, .slice none 0 0, .int .i64 0, .int .i64 0, .int .i64 0, .slice none 0 0, .slice none 0 0, .int .i64 0, .int .i64 0] 42) := heap_set_self g2 2 _
      have g4 : ((((((w9.setCell ⟨w.heap.size + 1, 0, none⟩ (.string ⟨S.s.toArray⟩)).setCell ⟨w.heap.size + 1, 1, none⟩ (.int .i64 S.e)).setCell ⟨w.heap.size + 2, 0, none⟩ (.int .i64 FE)).setCell ⟨w.heap.size + 2, 1, none⟩ (.int .i64 FA.e)).setCell ⟨w.heap.size + 2, 2, none⟩ (.int .i64 FA.b)).setCell ⟨w.heap.size + 2, 3, none⟩ (.int .i64 FA.k)).heap[w.heap.size + 2]? = some (.cells #[.int .i64 FE, .int .i64 FA.e, .int .i64 FA.b, .int .i64 FA.k, .slice none 0 0, .slice none 0 0, .int .i64 0, .int .i64 0, .int .i64 0, .slice none 0 0, .slice none 0 0, .int .i64 0, .int .i64 0] 42) := heap_set_self g3 3 _
      have g5 : (((((((w9.setCell ⟨w.heap.size + 1, 0, none⟩ (.string ⟨S.s.toArray⟩)).setCell ⟨w.heap.size + 1, 1, none⟩ (.int .i64 S.e)).setCell ⟨w.heap.size + 2, 0, none⟩ (.int .i64 FE)).setCell ⟨w.heap.size + 2, 1, none⟩ (.int .i64 FA.e)).setCell ⟨w.heap.size + 2, 2, none⟩ (.int .i64 FA.b)).setCell ⟨w.heap.size + 2, 3, none⟩ (.int .i64 FA.k)).setCell ⟨w.heap.size + 2, 4, none⟩ (.slice a2 FA.M.length p2)).heap[w.heap.size + 2]? = some (.cells #[.int .i64 FE, .int .i64 FA.e, .int .i64 FA.b, .int .i64 FA.k, .slice a2 FA.M.length p2, .slice none 0 0, .int .i64 0, .int .i64 0, .int .i64 0, .slice none 0 0, .slice none 0 0, .int .i64 0, .int .i64 0] 42) := heap_set_self g4 4 _
      have g6 : ((((((((w9.setCell ⟨w.heap.size + 1, 0, none⟩ (.string ⟨S.s.toArray⟩)).setCell ⟨w.heap.size + 1, 1, none⟩ (.int .i64 S.e)).setCell ⟨w.heap.size + 2, 0, none⟩ (.int .i64 FE)).setCell ⟨w.heap.size + 2, 1, none⟩ (.int .i64 FA.e)).setCell ⟨w.heap.size + 2, 2, none⟩ (.int .i64 FA.b)).setCell ⟨w.heap.size + 2, 3, none⟩ (.int .i64 FA.k)).setCell ⟨w.heap.size + 2, 4, none⟩ (.slice a2 FA.M.length p2)).setCell ⟨w.heap.size + 2, 5, none⟩ (.slice a3 FA.C.length p3)).heap[w.heap.size + 2]? = some (.cells #[.int .i64 FE, .int .i64 FA.e, .int .i64 FA.b, .int .i64 FA.k, .slice a2 FA.M.length p2, .slice a3 FA.C.length p3, .int .i64 0, .int .i64 0, .int .i64 0, .slice none 0 0, .slice none 0 0, .int .i64 0, .int .i64 0] 42) := heap_set_self g5 5 _
      have g7 : (((((((((w9.setCell ⟨w.heap.size + 1, 0, none⟩ (.string ⟨S.s.toArray⟩)).setCell ⟨w.heap.size + 1, 1, none⟩ (.int .i64 S.e)).setCell ⟨w.heap.size + 2, 0, none⟩ (.int .i64 FE)).setCell ⟨w.heap.size + 2, 1, none⟩ (.int .i64 FA.e)).setCell ⟨w.heap.size + 2, 2, none⟩ (.int .i64 FA.b)).setCell ⟨w.heap.size + 2, 3, none⟩ (.int .i64 FA.k)).setCell ⟨w.heap.size + 2, 4, none⟩ (.slice a2 FA.M.length p2)).setCell ⟨w.heap.size + 2, 5, none⟩ (.slice a3 FA.C.length p3)).setCell ⟨w.heap.size + 2, 6, none⟩ (.int .i64 FN.e)).heap[w.heap.size + 2]? = some (.cells #[.int .i64 FE, .int .i64 FA.e, .int .i64 FA.b, .int .i64 FA.k, .slice a2 FA.M.length p2, .slice a3 FA.C.length p3, .int .i64 FN.e, .int .i64 0, .int .i64 0, .slice none 0 0, .slice none 0 0, .int .i64 0, .int .i64 0] 42) := heap_set_self g6 6 _
      have g8 : ((((((((((w9.setCell ⟨w.heap.size + 1, 0, none⟩ (.string ⟨S.s.toArray⟩)).setCell ⟨w.heap.size + 1, 1, none⟩ (.int .i64 S.e)).setCell ⟨w.heap.size + 2, 0, none⟩ (.int .i64 FE)).setCell ⟨w.heap.size + 2, 1, none⟩ (.int .i64 FA.e)).setCell ⟨w.heap.size + 2, 2, none⟩ (.int .i64 FA.b)).setCell ⟨w.heap.size + 2, 3, none⟩ (.int .i64 FA.k)).setCell ⟨w.heap.size + 2, 4, none⟩ (.slice a2 FA.M.length p2)).setCell ⟨w.heap.size + 2, 5, none⟩ (.slice a3 FA.C.length p3)).setCell ⟨w.heap.size + 2, 6, none⟩ (.int .i64 FN.e)).setCell ⟨w.heap.size + 2, 7, none⟩ (.int .i64 FN.b)).heap[w.heap.size + 2]? = some (.cells #[.int .i64 FE, .int .i64 FA.e, .int .i64 FA.b, .int .i64 FA.k, .slice a2 FA.M.length p2, .slice a3 FA.C.length p3, .int .i64 FN.e, .int .i64 FN.b, .int .i64 0, .slice none 0 0, .slice none 0 0, .int .i64 0, .int .i64 0] 42) := heap_set_self g7 7 _
      have g9 : (((((((((((w9.setCell ⟨w.heap.size + 1, 0, none⟩ (.string ⟨S.s.toArray⟩)).setCell ⟨w.heap.size + 1, 1, none⟩ (.int .i64 S.e)).setCell ⟨w.heap.size + 2, 0, none⟩ (.int .i64 FE)).setCell ⟨w.heap.size + 2, 1, none⟩ (.int .i64 FA.e)).setCell ⟨w.heap.size + 2, 2, none⟩ (.int .i64 FA.b)).setCell ⟨w.heap.size + 2, 3, none⟩ (.int .i64 FA.k)).setCell ⟨w.heap.size + 2, 4, none⟩ (.slice a2 FA.M.length p2)).setCell ⟨w.heap.size + 2, 5, none⟩ (.slice a3 FA.C.length p3)).setCell ⟨w.heap.size + 2, 6, none⟩ (.int .i64 FN.e)).setCell ⟨w.heap.size + 2, 7, none⟩ (.int .i64 FN.b)).setCell ⟨w.heap.size + 2, 8, none⟩ (.int .i64 FN.k)).heap[w.heap.size + 2]? = some (.cells #[.int .i64 FE, .int .i64 FA.e, .int .i64 FA.b, .int .i64 FA.k, .slice a2 FA.M.length p2, .slice a3 FA.C.length p3, .int .i64 FN.e, .int .i64 FN.b, .int .i64 FN.k, .slice none 0 0, .slice none 0 0, .int .i64 0, .int .i64 0] 42) := heap_set_self g8 8 _
      have g10 : ((((((((((((w9.setCell ⟨w.heap.size + 1, 0, none⟩ (.string ⟨S.s.toArray⟩)).setCell ⟨w.heap.size + 1, 1, none⟩ (.int .i64 S.e)).setCell ⟨w.heap.size + 2, 0, none⟩ (.int .i64 FE)).setCell ⟨w.heap.size + 2, 1, none⟩ (.int .i64 FA.e)).setCell ⟨w.heap.size + 2, 2, none⟩ (.int .i64 FA.b)).setCell ⟨w.heap.size + 2, 3, none⟩ (.int .i64 FA.k)).setCell ⟨w.heap.size + 2, 4, none⟩ (.slice a2 FA.M.length p2)).setCell ⟨w.heap.size + 2, 5, none⟩ (.slice a3 FA.C.length p3)).setCell ⟨w.heap.size + 2, 6, none⟩ (.int .i64 FN.e)).setCell ⟨w.heap.size + 2, 7, none⟩ (.int .i64 FN.b)).setCell ⟨w.heap.size + 2, 8, none⟩ (.int .i64 FN.k)).setCell ⟨w.heap.size + 2, 9, none⟩ (.slice a4 FN.M.length p4)).heap[w.heap.size + 2]? = some (.cells #[.int .i64 FE, .int .i64 FA.e, .int .i64 FA.b, .int .i64 FA.k, .slice a2 FA.M.length p2, .slice a3 FA.C.length p3, .int .i64 FN.e, .int .i64 FN.b, .int .i64 FN.k, .slice a4 FN.M.length p4, .slice none 0 0, .int .i64 0, .int .i64 0] 42) := heap_set_self g9 9 _
      have g11 : (((((((((((((w9.setCell ⟨w.heap.size + 1, 0, none⟩ (.string ⟨S.s.toArray⟩)).setCell ⟨w.heap.size + 1, 1, none⟩ (.int .i64 S.e)).setCell ⟨w.heap.size + 2, 0, none⟩ (.int .i64 FE)).setCell ⟨w.heap.size + 2, 1, none⟩ (.int .i64 FA.e)).setCell ⟨w.heap.size + 2, 2, none⟩ (.int .i64 FA.b)).setCell ⟨w.heap.size + 2, 3, none⟩ (.int .i64 FA.k)).setCell ⟨w.heap.size + 2, 4, none⟩ (.slice a2 FA.M.length p2)).setCell ⟨w.heap.size + 2, 5, none⟩ (.slice a3 FA.C.length p3)).setCell ⟨w.heap.size + 2, 6, none⟩ (.int .i64 FN.e)).setCell ⟨w.heap.size + 2, 7, none⟩ (.int .i64 FN.b)).setCell ⟨w.heap.size + 2, 8, none⟩ (.int .i64 FN.k)).setCell ⟨w.heap.size + 2, 9, none⟩ (.slice a4 FN.M.length p4)).setCell ⟨w.heap.size + 2, 10, none⟩ (.slice a5 FN.C.length p5)).heap[w.heap.size + 2]? = some (.cells #[.int .i64 FE, .int .i64 FA.e, .int .i64 FA.b, .int .i64 FA.k, .slice a2 FA.M.length p2, .slice a3 FA.C.length p3, .int .i64 FN.e, .int .i64 FN.b, .int .i64 FN.k, .slice a4 FN.M.length p4, .slice a5 FN.C.length p5, .int .i64 0, .int .i64 0] 42) := heap_set_self g10 10 _
      have g12 : ((((((((((((((w9.setCell ⟨w.heap.size + 1, 0, none⟩ (.string ⟨S.s.toArray⟩)).setCell ⟨w.heap.size + 1, 1, none⟩ (.int .i64 S.e)).setCell ⟨w.heap.size + 2, 0, none⟩ (.int .i64 FE)).setCell ⟨w.heap.size + 2, 1, none⟩ (.int .i64 FA.e)).setCell ⟨w.heap.size + 2, 2, none⟩ (.int .i64 FA.b)).setCell ⟨w.heap.size + 2, 3, none⟩ (.int .i64 FA.k)).setCell ⟨w.heap.size + 2, 4, none⟩ (.slice a2 FA.M.length p2)).setCell ⟨w.heap.size + 2, 5, none⟩ (.slice a3 FA.C.length p3)).setCell ⟨w.heap.size + 2, 6, none⟩ (.int .i64 FN.e)).setCell ⟨w.heap.size + 2, 7, none⟩ (.int .i64 FN.b)).setCell ⟨w.heap.size + 2, 8, none⟩ (.int .i64 FN.k)).setCell ⟨w.heap.size + 2, 9, none⟩ (.slice a4 FN.M.length p4)).setCell ⟨w.heap.size + 2, 10, none⟩ (.slice a5 FN.C.length p5)).setCell ⟨w.heap.size + 2, 11, none⟩ (.int .i64 F0)).heap[w.heap.size + 2]? = some (.cells #[.int .i64 FE, .int .i64 FA.e, .int .i64 FA.b, .int .i64 FA.k, .slice a2 FA.M.length p2, .slice a3 FA.C.length p3, .int .i64 FN.e, .int .i64 FN.b, .int .i64 FN.k, .slice a4 FN.M.length p4, .slice a5 FN.C.length p5, .int .i64 F0, .int .i64 0] 42) := heap_set_self g11 11 _
      have g13 : (((((((((((((((w9.setCell ⟨w.heap.size + 1, 0, none⟩ (.string ⟨S.s.toArray⟩)).setCell ⟨w.heap.size + 1, 1, none⟩ (.int .i64 S.e)).setCell ⟨w.heap.size + 2, 0, none⟩ (.int .i64 FE)).setCell ⟨w.heap.size + 2, 1, none⟩ (.int .i64 FA.e)).setCell ⟨w.heap.size + 2, 2, none⟩ (.int .i64 FA.b)).setCell ⟨w.heap.size + 2, 3, none⟩ (.int .i64 FA.k)).setCell ⟨w.heap.size + 2, 4, none⟩ (.slice a2 FA.M.length p2)).setCell ⟨w.heap.size + 2, 5, none⟩ (.slice a3 FA.C.length p3)).setCell ⟨w.heap.size + 2, 6, none⟩ (.int .i64 FN.e)).setCell ⟨w.heap.size + 2, 7, none⟩ (.int .i64 FN.b)).setCell ⟨w.heap.size + 2, 8, none⟩ (.int .i64 FN.k)).setCell ⟨w.heap.size + 2, 9, none⟩ (.slice a4 FN.M.length p4)).setCell ⟨w.heap.size + 2, 10, none⟩ (.slice a5 FN.C.length p5)).setCell ⟨w.heap.size + 2, 11, none⟩ (.int .i64 F0)).setCell ⟨w.heap.size + 2, 12, none⟩ (.int .i64 F1)).heap[w.heap.size + 2]? = some (.cells #[.int .i64 FE, .int .i64 FA.e, .int .i64 FA.b, .int .i64 FA.k, .slice a2 FA.M.length p2, .slice a3 FA.C.length p3, .int .i64 FN.e, .int .i64 FN.b, .int .i64 FN.k, .slice a4 FN.M.length p4, .slice a5 FN.C.length p5, .int .i64 F0, .int .i64 F1] 42) := heap_set_self g12 12 _
      have gO : Only (w.heap.size + 2) ((w9.setCell ⟨w.heap.size + 1, 0, none⟩ (.string ⟨S.s.toArray⟩)).setCell ⟨w.heap.size + 1, 1, none⟩ (.int .i64 S.e)) (((((((((((((((w9.setCell ⟨w.heap.size + 1, 0, none⟩ (.string ⟨S.s.toArray⟩)).setCell ⟨w.heap.size + 1, 1, none⟩ (.int .i64 S.e)).setCell ⟨w.heap.size + 2, 0, none⟩ (.int .i64 FE)).setCell ⟨w.heap.size + 2, 1, none⟩ (.int .i64 FA.e)).setCell ⟨w.heap.size + 2, 2, none⟩ (.int .i64 FA.b)).setCell ⟨w.heap.size + 2, 3, none⟩ (.int .i64 FA.k)).setCell ⟨w.heap.size + 2, 4, none⟩ (.slice a2 FA.M.length p2)).setCell ⟨w.heap.size + 2, 5, none⟩ (.slice a3 FA.C.length p3)).setCell ⟨w.heap.size + 2, 6, none⟩ (.int .i64 FN.e)).setCell ⟨w.heap.size + 2, 7, none⟩ (.int .i64 FN.b)).setCell ⟨w.heap.size + 2, 8, none⟩ (.int .i64 FN.k)).setCell ⟨w.heap.size + 2, 9, none⟩ (.slice a4 FN.M.length p4)).setCell ⟨w.heap.size + 2, 10, none⟩ (.slice a5 FN.C.length p5)).setCell ⟨w.heap.size + 2, 11, none⟩ (.int .i64 F0)).setCell ⟨w.heap.size + 2, 12, none⟩ (.int .i64 F1)) := (((((((((((((Only.refl _ _).set 0 _).set 1 _).set 2 _).set 3 _).set 4 _).set 5 _).set 6 _).set 7 _).set 8 _).set 9 _).set 10 _).set 11 _).set 12 _
      have GI := Lib.hid (And.intro ((gO.block _ (lt_heap A2) (by omega)).trans A2) g13)
      have GO := Lib.hid (And.intro AO gO)
      clear A1 A2 AO hC1 g1 g2 g3 g4 g5 g6 g7 g8 g9 g10 g11 g12 g13 gO
      have A1 : (w9.setCell ⟨w.heap.size + 1, 0, none⟩ (.string ⟨S.s.toArray⟩)).heap[w.heap.size + 1]? = some (.cells #[.string ⟨S.s.toArray⟩, .int .i64 0] 35) := heap_set_self H9.out.1.1 0 _
      have A2 : ((w9.setCell ⟨w.heap.size + 1, 0, none⟩ (.string ⟨S.s.toArray⟩)).setCell ⟨w.heap.size + 1, 1, none⟩ (.int .i64 S.e)).heap[w.heap.size + 1]? = some (.cells #[.string ⟨S.s.toArray⟩, .int .i64 S.e] 35) := heap_set_self A1 1 _
      have AO : Only (w.heap.size + 1) w9 ((w9.setCell ⟨w.heap.size + 1, 0, none⟩ (.string ⟨S.s.toArray⟩)).setCell ⟨w.heap.size + 1, 1, none⟩ (.int .i64 S.e)) := ((Only.refl _ _).set 0 _).set 1 _
      have C1 : (w9.setCell ⟨w.heap.size + 2, 0, none⟩ (.int .i64 FE)).heap[w.heap.size + 2]? = some (.cells #[.int .i64 FE, .int .i64 0, .int .i64 0, .int .i64 0, .slice none 0 0, .slice none 0 0, .int .i64 0, .int .i64 0, .int .i64 0, .slice none 0 0, .slice none 0 0, .int .i64 0, .int .i64 0] 42) := heap_set_self H9.out.1.2.1 0 _
      have C2 : ((w9.setCell ⟨w.heap.size + 2, 0, none⟩ (.int .i64 FE)).setCell ⟨w.heap.size + 2, 1, none⟩ (.int .i64 FA.e)).heap[w.heap.size + 2]? = some (.cells #[.int .i64 FE, .int .i64 FA.e, .int .i64 0, .int .i64 0, .slice none 0 0, .slice none 0 0, .int .i64 0, .int .i64 0, .int .i64 0, .slice none 0 0, .slice none 0 0, .int .i64 0, .int .i64 0] 42) := heap_set_self C1 1 _
      have C3 : (((w9.setCell ⟨w.heap.size + 2, 0, none⟩ (.int .i64 FE)).setCell ⟨w.heap.size + 2, 1, none⟩ (.int .i64 FA.e)).setCell ⟨w.heap.size + 2, 2, none⟩ (.int .i64 FA.b)).heap[w.heap.size + 2]? = some (.cells #[.int .i64 FE, .int .i64 FA.e, .int .i64 FA.b, .int .i64 0, .slice none 0 0, .slice none 0 0, .int .i64 0, .int .i64 0, .int .i64 0, .slice none 0 0, .slice none 0 0, .int .i64 0, .int .i64 0] 42) := heap_set_self C2 2 _
      have C4 : ((((w9.setCell ⟨w.heap.size + 2, 0, none⟩ (.int .i64 FE)).setCell ⟨w.heap.size + 2, 1, none⟩ (.int .i64 FA.e)).setCell ⟨w.heap.size + 2, 2, none⟩ (.int .i64 FA.b)).setCell ⟨w.heap.size + 2, 3, none⟩ (.int .i64 FA.k)).heap[w.heap.size + 2]? = some (.cells #[.int .i64 FE, .int .i64 FA.e, .int .i64 FA.b, .int .i64 FA.k, .slice none 0 0, .slice none 0 0, .int .i64 0, .int .i64 0, .int .i64 0, .slice none 0 0, .slice none 0 0, .int .i64 0, .int .i64 0] 42) := heap_set_self C3 3 _
      have C5 : (((((w9.setCell ⟨w.heap.size + 2, 0, none⟩ (.int .i64 FE)).setCell ⟨w.heap.size + 2, 1, none⟩ (.int .i64 FA.e)).setCell ⟨w.heap.size + 2, 2, none⟩ (.int .i64 FA.b)).setCell ⟨w.heap.size + 2, 3, none⟩ (.int .i64 FA.k)).setCell ⟨w.heap.size + 2, 4, none⟩ (.slice a2 FA.M.length p2)).heap[w.heap.size + 2]? = some (.cells #[.int .i64 FE, .int .i64 FA.e, .int .i64 FA.b, .int .i64 FA.k, .slice a2 FA.M.length p2, .slice none 0 0, .int .i64 0, .int .i64 0, .int .i64 0, .slice none 0 0, .slice none 0 0, .int .i64 0, .int .i64 0] 42) := heap_set_self C4 4 _
      have C6 : ((((((w9.setCell ⟨w.heap.size + 2, 0, none⟩ (.int .i64 FE)).setCell ⟨w.heap.size + 2, 1, none⟩ (.int .i64 FA.e)).setCell ⟨w.heap.size + 2, 2, none⟩ (.int .i64 FA.b)).setCell ⟨w.heap.size + 2, 3, none⟩ (.int .i64 FA.k)).setCell ⟨w.heap.size + 2, 4, none⟩ (.slice a2 FA.M.length p2)).setCell ⟨w.heap.size + 2, 5, none⟩ (.slice a3 FA.C.length p3)).heap[w.heap.size + 2]? = some (.cells #[.int .i64 FE, .int .i64 FA.e, .int .i64 FA.b, .int .i64 FA.k, .slice a2 FA.M.length p2, .slice a3 FA.C.length p3, .int .i64 0, .int .i64 0, .int .i64 0, .slice none 0 0, .slice none 0 0, .int .i64 0, .int .i64 0] 42) := heap_set_self C5 5 _
      have C7 : (((((((w9.setCell ⟨w.heap.size + 2, 0, none⟩ (.int .i64 FE)).setCell ⟨w.heap.size + 2, 1, none⟩ (.int .i64 FA.e)).setCell ⟨w.heap.size + 2, 2, none⟩ (.int .i64 FA.b)).setCell ⟨w.heap.size + 2, 3, none⟩ (.int .i64 FA.k)).setCell ⟨w.heap.size + 2, 4, none⟩ (.slice a2 FA.M.length p2)).setCell ⟨w.heap.size + 2, 5, none⟩ (.slice a3 FA.C.length p3)).setCell ⟨w.heap.size + 2, 6, none⟩ (.int .i64 FN.e)).heap[w.heap.size + 2]? = some (.cells #[.int .i64 FE, .int .i64 FA.e, .int .i64 FA.b, .int .i64 FA.k, .slice a2 FA.M.length p2, .slice a3 FA.C.length p3, .int .i64 FN.e, .int .i64 0, .int .i64 0, .slice none 0 0, .slice none 0 0, .int .i64 0, .int .i64 0] 42) := heap_set_self C6 6 _
      have C8 : ((((((((w9.setCell ⟨w.heap.size + 2, 0, none⟩ (.int .i64 FE)).setCell ⟨w.heap.size + 2, 1, none⟩ (.int .i64 FA.e)).setCell ⟨w.heap.size + 2, 2, none⟩ (.int .i64 FA.b)).setCell ⟨w.heap.size + 2, 3, none⟩ (.int .i64 FA.k)).setCell ⟨w.heap.size + 2, 4, none⟩ (.slice a2 FA.M.length p2)).setCell ⟨w.heap.size + 2, 5, none⟩ (.slice a3 FA.C.length p3)).setCell ⟨w.heap.size + 2, 6, none⟩ (.int .i64 FN.e)).setCell ⟨w.heap.size + 2, 7, none⟩ (.int .i64 FN.b)).heap[w.heap.size + 2]? = some (.cells #[.int .i64 FE, .int .i64 FA.e, .int .i64 FA.b, .int .i64 FA.k, .slice a2 FA.M.length p2, .slice a3 FA.C.length p3, .int .i64 FN.e, .int .i64 FN.b, .int .i64 0, .slice none 0 0, .slice none 0 0, .int .i64 0, .int .i64 0] 42) := heap_set_self C7 7 _
      have C9 : (((((((((w9.setCell ⟨w.heap.size + 2, 0, none⟩ (.int .i64 FE)).setCell ⟨w.heap.size + 2, 1, none⟩ (.int .i64 FA.e)).setCell ⟨w.heap.size + 2, 2, none⟩ (.int .i64 FA.b)).setCell ⟨w.heap.size + 2, 3, none⟩ (.int .i64 FA.k)).setCell ⟨w.heap.size + 2, 4, none⟩ (.slice a2 FA.M.length p2)).setCell ⟨w.heap.size + 2, 5, none⟩ (.slice a3 FA.C.length p3)).setCell ⟨w.heap.size + 2, 6, none⟩ (.int .i64 FN.e)).setCell ⟨w.heap.size + 2, 7, none⟩ (.int .i64 FN.b)).setCell ⟨w.heap.size + 2, 8, none⟩ (.int .i64 FN.k)).heap[w.heap.size + 2]? = some (.cells #[.int .i64 FE, .int .i64 FA.e, .int .i64 FA.b, .int .i64 FA.k, .slice a2 FA.M.length p2, .slice a3 FA.C.length p3, .int .i64 FN.e, .int .i64 FN.b, .int .i64 FN.k, .slice none 0 0, .slice none 0 0, .int .i64 0, .int .i64 0] 42) := heap_set_self C8 8 _
      have C10 : ((((((((((w9.setCell ⟨w.heap.size + 2, 0, none⟩ (.int .i64 FE)).setCell ⟨w.heap.size + 2, 1, none⟩ (.int .i64 FA.e)).setCell ⟨w.heap.size + 2, 2, none⟩ (.int .i64 FA.b)).setCell ⟨w.heap.size + 2, 3, none⟩ (.int .i64 FA.k)).setCell ⟨w.heap.size + 2, 4, none⟩ (.slice a2 FA.M.length p2)).setCell ⟨w.heap.size + 2, 5, none⟩ (.slice a3 FA.C.length p3)).setCell ⟨w.heap.size + 2, 6, none⟩ (.int .i64 FN.e)).setCell ⟨w.heap.size + 2, 7, none⟩ (.int .i64 FN.b)).setCell ⟨w.heap.size + 2, 8, none⟩ (.int .i64 FN.k)).setCell ⟨w.heap.size + 2, 9, none⟩ (.slice a4 FN.M.length p4)).heap[w.heap.size + 2]? = some (.cells #[.int .i64 FE, .int .i64 FA.e, .int .i64 FA.b, .int .i64 FA.k, .slice a2 FA.M.length p2, .slice a3 FA.C.length p3, .int .i64 FN.e, .int .i64 FN.b, .int .i64 FN.k, .slice a4 FN.M.length p4, .slice none 0 0, .int .i64 0, .int .i64 0] 42) := heap_set_self C9 9 _
      have C11 : (((((((((((w9.setCell ⟨w.heap.size + 2, 0, none⟩ (.int .i64 FE)).setCell ⟨w.heap.size + 2, 1, none⟩ (.int .i64 FA.e)).setCell ⟨w.heap.size + 2, 2, none⟩ (.int .i64 FA.b)).setCell ⟨w.heap.size + 2, 3, none⟩ (.int .i64 FA.k)).setCell ⟨w.heap.size + 2, 4, none⟩ (.slice a2 FA.M.length p2)).setCell ⟨w.heap.size + 2, 5, none⟩ (.slice a3 FA.C.length p3)).setCell ⟨w.heap.size + 2, 6, none⟩ (.int .i64 FN.e)).setCell ⟨w.heap.size + 2, 7, none⟩ (.int .i64 FN.b)).setCell ⟨w.heap.size + 2, 8, none⟩ (.int .i64 FN.k)).setCell ⟨w.heap.size + 2, 9, none⟩ (.slice a4 FN.M.length p4)).setCell ⟨w.heap.size + 2, 10, none⟩ (.slice a5 FN.C.length p5)).heap[w.heap.size + 2]? = some (.cells #[.int .i64 FE, .int .i64 FA.e, .int .i64 FA.b, .int .i64 FA.k, .slice a2 FA.M.length p2, .slice a3 FA.C.length p3, .int .i64 FN.e, .int .i64 FN.b, .int .i64 FN.k, .slice a4 FN.M.length p4, .slice a5 FN.C.length p5, .int .i64 0, .int .i64 0] 42) := heap_set_self C10 10 _
      have C12 : ((((((((((((w9.setCell ⟨w.heap.size + 2, 0, none⟩ (.int .i64 FE)).setCell ⟨w.heap.size + 2, 1, none⟩ (.int .i64 FA.e)).setCell ⟨w.heap.size + 2, 2, none⟩ (.int .i64 FA.b)).setCell ⟨w.heap.size + 2, 3, none⟩ (.int .i64 FA.k)).setCell ⟨w.heap.size + 2, 4, none⟩ (.slice a2 FA.M.length p2)).setCell ⟨w.heap.size + 2, 5, none⟩ (.slice a3 FA.C.length p3)).setCell ⟨w.heap.size + 2, 6, none⟩ (.int .i64 FN.e)).setCell ⟨w.heap.size + 2, 7, none⟩ (.int .i64 FN.b)).setCell ⟨w.heap.size + 2, 8, none⟩ (.int .i64 FN.k)).setCell ⟨w.heap.size + 2, 9, none⟩ (.slice a4 FN.M.length p4)).setCell ⟨w.heap.size + 2, 10, none⟩ (.slice a5 FN.C.length p5)).setCell ⟨w.heap.size + 2, 11, none⟩ (.int .i64 F0)).heap[w.heap.size + 2]? = some (.cells #[.int .i64 FE, .int .i64 FA.e, .int .i64 FA.b, .int .i64 FA.k, .slice a2 FA.M.length p2, .slice a3 FA.C.length p3, .int .i64 FN.e, .int .i64 FN.b, .int .i64 FN.k, .slice a4 FN.M.length p4, .slice a5 FN.C.length p5, .int .i64 F0, .int .i64 0] 42) := heap_set_self C11 11 _
      have C13 : (((((((((((((w9.setCell ⟨w.heap.size + 2, 0, none⟩ (.int .i64 FE)).setCell ⟨w.heap.size + 2, 1, none⟩ (.int .i64 FA.e)).setCell ⟨w.heap.size + 2, 2, none⟩ (.int .i64 FA.b)).setCell ⟨w.heap.size + 2, 3, none⟩ (.int .i64 FA.k)).setCell ⟨w.heap.size + 2, 4, none⟩ (.slice a2 FA.M.length p2)).setCell ⟨w.heap.size + 2, 5, none⟩ (.slice a3 FA.C.length p3)).setCell ⟨w.heap.size + 2, 6, none⟩ (.int .i64 FN.e)).setCell ⟨w.heap.size + 2, 7, none⟩ (.int .i64 FN.b)).setCell ⟨w.heap.size + 2, 8, none⟩ (.int .i64 FN.k)).setCell ⟨w.heap.size + 2, 9, none⟩ (.slice a4 FN.M.length p4)).setCell ⟨w.heap.size + 2, 10, none⟩ (.slice a5 FN.C.length p5)).setCell ⟨w.heap.size + 2, 11, none⟩ (.int .i64 F0)).setCell ⟨w.heap.size + 2, 12, none⟩ (.int .i64 F1)).heap[w.heap.size + 2]? = some (.cells #[.int .i64 FE, .int .i64 FA.e, .int .i64 FA.b, .int .i64 FA.k, .slice a2 FA.M.length p2, .slice a3 FA.C.length p3, .int .i64 FN.e, .int .i64 FN.b, .int .i64 FN.k, .slice a4 FN.M.length p4, .slice a5 FN.C.length p5, .int .i64 F0, .int .i64 F1] 42) := heap_set_self C12 12 _
      have CO : Only (w.heap.size + 2) w9 (((((((((((((w9.setCell ⟨w.heap.size + 2, 0, none⟩ (.int .i64 FE)).setCell ⟨w.heap.size + 2, 1, none⟩ (.int .i64 FA.e)).setCell ⟨w.heap.size + 2, 2, none⟩ (.int .i64 FA.b)).setCell ⟨w.heap.size + 2, 3, none⟩ (.int .i64 FA.k)).setCell ⟨w.heap.size + 2, 4, none⟩ (.slice a2 FA.M.length p2)).setCell ⟨w.heap.size + 2, 5, none⟩ (.slice a3 FA.C.length p3)).setCell ⟨w.heap.size + 2, 6, none⟩ (.int .i64 FN.e)).setCell ⟨w.heap.size + 2, 7, none⟩ (.int .i64 FN.b)).setCell ⟨w.heap.size + 2, 8, none⟩ (.int .i64 FN.k)).setCell ⟨w.heap.size + 2, 9, none⟩ (.slice a4 FN.M.length p4)).setCell ⟨w.heap.size + 2, 10, none⟩ (.slice a5 FN.C.length p5)).setCell ⟨w.heap.size + 2, 11, none⟩ (.int .i64 F0)).setCell ⟨w.heap.size + 2, 12, none⟩ (.int .i64 F1)) := (((((((((((((Only.refl _ _).set 0 _).set 1 _).set 2 _).set 3 _).set 4 _).set 5 _).set 6 _).set 7 _).set 8 _).set 9 _).set 10 _).set 11 _).set 12 _
      have pAc := (AO.block (w.heap.size + 2) (lt_heap H9.out.1.2.1) (by omega)).trans H9.out.1.2.1
      have pc0 := cell_atD pAc 0 (v := .int .i64 0) rfl
      have pc1 := cell_atD pAc 1 (v := .int .i64 0) rfl
      have pc2 := cell_atD pAc 2 (v := .int .i64 0) rfl
      have pc3 := cell_atD pAc 3 (v := .int .i64 0) rfl
      have pc4 := cell_atD pAc 4 (v := .slice none 0 0) rfl
      have pc5 := cell_atD pAc 5 (v := .slice none 0 0) rfl
      have pc6 := cell_atD pAc 6 (v := .int .i64 0) rfl
      have pc7 := cell_atD pAc 7 (v := .int .i64 0) rfl
      have pc8 := cell_atD pAc 8 (v := .int .i64 0) rfl
      have pc9 := cell_atD pAc 9 (v := .slice none 0 0) rfl
      have pc10 := cell_atD pAc 10 (v := .slice none 0 0) rfl
      have pc11 := cell_atD pAc 11 (v := .int .i64 0) rfl
      have pc12 := cell_atD pAc 12 (v := .int .i64 0) rfl
      have acf : ∀ j, ((w9.setCell ⟨w.heap.size + 1, 0, none⟩ (.string ⟨S.s.toArray⟩)).setCell ⟨w.heap.size + 1, 1, none⟩ (.int .i64 S.e)).frozen? ⟨w.heap.size + 2, j, none⟩ = false := fun j => by simp [World.frozen?, pAc]
      clear A1 A2 AO pAc CO C1 C2 C3 C4 C5 C6 C7 C8 C9 C10 C11 C12 C13
      have HFIN := Lib.hid (show (((((((((((((((w9.setCell ⟨w.heap.size + 1, 0, none⟩ (.string ⟨S.s.toArray⟩)).setCell ⟨w.heap.size + 1, 1, none⟩ (.int .i64 S.e)).setCell ⟨w.heap.size + 2, 0, none⟩ (.int .i64 FE)).setCell ⟨w.heap.size + 2, 1, none⟩ (.int .i64 FA.e)).setCell ⟨w.heap.size + 2, 2, none⟩ (.int .i64 FA.b)).setCell ⟨w.heap.size + 2, 3, none⟩ (.int .i64 FA.k)).setCell ⟨w.heap.size + 2, 4, none⟩ (.slice a2 FA.M.length p2)).setCell ⟨w.heap.size + 2, 5, none⟩ (.slice a3 FA.C.length p3)).setCell ⟨w.heap.size + 2, 6, none⟩ (.int .i64 FN.e)).setCell ⟨w.heap.size + 2, 7, none⟩ (.int .i64 FN.b)).setCell ⟨w.heap.size + 2, 8, none⟩ (.int .i64 FN.k)).setCell ⟨w.heap.size + 2, 9, none⟩ (.slice a4 FN.M.length p4)).setCell ⟨w.heap.size + 2, 10, none⟩ (.slice a5 FN.C.length p5)).setCell ⟨w.heap.size + 2, 11, none⟩ (.int .i64 F0)).setCell ⟨w.heap.size + 2, 12, none⟩ (.int .i64 F1)).drew.heap[w.heap.size + 1]? = some (.cells #[.string ⟨S.s.toArray⟩, .int .i64 S.e] 35) ∧ (((((((((((((((w9.setCell ⟨w.heap.size + 1, 0, none⟩ (.string ⟨S.s.toArray⟩)).setCell ⟨w.heap.size + 1, 1, none⟩ (.int .i64 S.e)).setCell ⟨w.heap.size + 2, 0, none⟩ (.int .i64 FE)).setCell ⟨w.heap.size + 2, 1, none⟩ (.int .i64 FA.e)).setCell ⟨w.heap.size + 2, 2, none⟩ (.int .i64 FA.b)).setCell ⟨w.heap.size + 2, 3, none⟩ (.int .i64 FA.k)).setCell ⟨w.heap.size + 2, 4, none⟩ (.slice a2 FA.M.length p2)).setCell ⟨w.heap.size + 2, 5, none⟩ (.slice a3 FA.C.length p3)).setCell ⟨w.heap.size + 2, 6, none⟩ (.int .i64 FN.e)).setCell ⟨w.heap.size + 2, 7, none⟩ (.int .i64 FN.b)).setCell ⟨w.heap.size + 2, 8, none⟩ (.int .i64 FN.k)).setCell ⟨w.heap.size + 2, 9, none⟩ (.slice a4 FN.M.length p4)).setCell ⟨w.heap.size + 2, 10, none⟩ (.slice a5 FN.C.length p5)).setCell ⟨w.heap.size + 2, 11, none⟩ (.int .i64 F0)).setCell ⟨w.heap.size + 2, 12, none⟩ (.int .i64 F1)).drew.heap[w.heap.size + 2]? = some (.cells #[.int .i64 FE, .int .i64 FA.e, .int .i64 FA.b, .int .i64 FA.k, .slice a2 FA.M.length p2, .slice a3 FA.C.length p3, .int .i64 FN.e, .int .i64 FN.b, .int .i64 FN.k, .slice a4 FN.M.length p4, .slice a5 FN.C.length p5, .int .i64 F0, .int .i64 F1] 42) ∧ CFO FA w.heap.size (((((((((((((((w9.setCell ⟨w.heap.size + 1, 0, none⟩ (.string ⟨S.s.toArray⟩)).setCell ⟨w.heap.size + 1, 1, none⟩ (.int .i64 S.e)).setCell ⟨w.heap.size + 2, 0, none⟩ (.int .i64 FE)).setCell ⟨w.heap.size + 2, 1, none⟩ (.int .i64 FA.e)).setCell ⟨w.heap.size + 2, 2, none⟩ (.int .i64 FA.b)).setCell ⟨w.heap.size + 2, 3, none⟩ (.int .i64 FA.k)).setCell ⟨w.heap.size + 2, 4, none⟩ (.slice a2 FA.M.length p2)).setCell ⟨w.heap.size + 2, 5, none⟩ (.slice a3 FA.C.length p3)).setCell ⟨w.heap.size + 2, 6, none⟩ (.int .i64 FN.e)).setCell ⟨w.heap.size + 2, 7, none⟩ (.int .i64 FN.b)).setCell ⟨w.heap.size + 2, 8, none⟩ (.int .i64 FN.k)).setCell ⟨w.heap.size + 2, 9, none⟩ (.slice a4 FN.M.length p4)).setCell ⟨w.heap.size + 2, 10, none⟩ (.slice a5 FN.C.length p5)).setCell ⟨w.heap.size + 2, 11, none⟩ (.int .i64 F0)).setCell ⟨w.heap.size + 2, 12, none⟩ (.int .i64 F1)).drew (.slice a2 FA.M.length p2) (.slice a3 FA.C.length p3) ∧ Below w.heap.size w (((((((((((((((w9.setCell ⟨w.heap.size + 1, 0, none⟩ (.string ⟨S.s.toArray⟩)).setCell ⟨w.heap.size + 1, 1, none⟩ (.int .i64 S.e)).setCell ⟨w.heap.size + 2, 0, none⟩ (.int .i64 FE)).setCell ⟨w.heap.size + 2, 1, none⟩ (.int .i64 FA.e)).setCell ⟨w.heap.size + 2, 2, none⟩ (.int .i64 FA.b)).setCell ⟨w.heap.size + 2, 3, none⟩ (.int .i64 FA.k)).setCell ⟨w.heap.size + 2, 4, none⟩ (.slice a2 FA.M.length p2)).setCell ⟨w.heap.size + 2, 5, none⟩ (.slice a3 FA.C.length p3)).setCell ⟨w.heap.size + 2, 6, none⟩ (.int .i64 FN.e)).setCell ⟨w.heap.size + 2, 7, none⟩ (.int .i64 FN.b)).setCell ⟨w.heap.size + 2, 8, none⟩ (.int .i64 FN.k)).setCell ⟨w.heap.size + 2, 9, none⟩ (.slice a4 FN.M.length p4)).setCell ⟨w.heap.size + 2, 10, none⟩ (.slice a5 FN.C.length p5)).setCell ⟨w.heap.size + 2, 11, none⟩ (.int .i64 F0)).setCell ⟨w.heap.size + 2, 12, none⟩ (.int .i64 F1)).drew from
        drew_end GI.out.1 GI.out.2 (CFO.base (((H9.out.2.2.2.1).only GO.out.1 (by omega)).only GO.out.2 (by omega)) (by omega)) ((H9.out.1.2.2.2.1.trans (GO.out.1.below (by omega) H9.out.1.2.2.2.1.size)).trans (GO.out.2.below (by omega) (Nat.le_trans H9.out.1.2.2.2.1.size GO.out.1.size))))
      have HFN := Lib.hid (show CFO FN w.heap.size (((((((((((((((w9.setCell ⟨w.heap.size + 1, 0, none⟩ (.string ⟨S.s.toArray⟩)).setCell ⟨w.heap.size + 1, 1, none⟩ (.int .i64 S.e)).setCell ⟨w.heap.size + 2, 0, none⟩ (.int .i64 FE)).setCell ⟨w.heap.size + 2, 1, none⟩ (.int .i64 FA.e)).setCell ⟨w.heap.size + 2, 2, none⟩ (.int .i64 FA.b)).setCell ⟨w.heap.size + 2, 3, none⟩ (.int .i64 FA.k)).setCell ⟨w.heap.size + 2, 4, none⟩ (.slice a2 FA.M.length p2)).setCell ⟨w.heap.size + 2, 5, none⟩ (.slice a3 FA.C.length p3)).setCell ⟨w.heap.size + 2, 6, none⟩ (.int .i64 FN.e)).setCell ⟨w.heap.size + 2, 7, none⟩ (.int .i64 FN.b)).setCell ⟨w.heap.size + 2, 8, none⟩ (.int .i64 FN.k)).setCell ⟨w.heap.size + 2, 9, none⟩ (.slice a4 FN.M.length p4)).setCell ⟨w.heap.size + 2, 10, none⟩ (.slice a5 FN.C.length p5)).setCell ⟨w.heap.size + 2, 11, none⟩ (.int .i64 F0)).setCell ⟨w.heap.size + 2, 12, none⟩ (.int .i64 F1)).drew (.slice a4 FN.M.length p4) (.slice a5 FN.C.length p5) from (CFO.base (((H9.out.2.2.2.2.1).only GO.out.1 (by omega)).only GO.out.2 (by omega)) (by omega)).drew)
      clear GI GO hq3 hqa hqn hgb h0 h1 hcell
      go_upto_region 9 with fail
      go_region_held3 (fun w' => ∀ b o, b ≠ w.heap.size + 1 → b ≠ w.heap.size + 2 → w'.cell? ⟨b, o, none⟩ = w9.cell? ⟨b, o, none⟩) (((repeat (first | with_reducible refine ks1 ?_ _ _ | with_reducible refine ks2 ?_ _ _ | with_reducible refine ksd ?_)); first | assumption | exact fun _ _ _ _ => rfl)) (first | fail)
      trace_state
      all_goals
        clear pc0 pc1 pc2 pc3 pc4 pc5 pc6 pc7 pc8 pc9 pc10 pc11 pc12 acf
        clear z0 z1 zf xf x0 x1 x2 x3 x4 x5 x6 x7 x8 x9 x10 x11 x12 d0 d1 d2 d3 d4 k0 k1 k2 k3 k4 g0 g1 hg n1 n2 n3 n4 n5 n6 n7 n8 m1 m2 m3 m4 m5 m6 m7 m8 b0 b1 bf
        go_wp2_with fail
        generalize (((((((((((((((w9.setCell ⟨w.heap.size + 1, 0, none⟩ (.string ⟨S.s.toArray⟩)).setCell ⟨w.heap.size + 1, 1, none⟩ (.int .i64 S.e)).setCell ⟨w.heap.size + 2, 0, none⟩ (.int .i64 FE)).setCell ⟨w.heap.size + 2, 1, none⟩ (.int .i64 FA.e)).setCell ⟨w.heap.size + 2, 2, none⟩ (.int .i64 FA.b)).setCell ⟨w.heap.size + 2, 3, none⟩ (.int .i64 FA.k)).setCell ⟨w.heap.size + 2, 4, none⟩ (.slice a2 FA.M.length p2)).setCell ⟨w.heap.size + 2, 5, none⟩ (.slice a3 FA.C.length p3)).setCell ⟨w.heap.size + 2, 6, none⟩ (.int .i64 FN.e)).setCell ⟨w.heap.size + 2, 7, none⟩ (.int .i64 FN.b)).setCell ⟨w.heap.size + 2, 8, none⟩ (.int .i64 FN.k)).setCell ⟨w.heap.size + 2, 9, none⟩ (.slice a4 FN.M.length p4)).setCell ⟨w.heap.size + 2, 10, none⟩ (.slice a5 FN.C.length p5)).setCell ⟨w.heap.size + 2, 11, none⟩ (.int .i64 F0)).setCell ⟨w.heap.size + 2, 12, none⟩ (.int .i64 F1)).drew = wf at *
        obtain ⟨fi, fj, hL, hbf⟩ := HFIN.out
        have y0 := cell_atD fi 0 (v := .string ⟨S.s.toArray⟩) rfl
        have y1 := cell_atD fi 1 (v := .int .i64 S.e) rfl
        have t0 := cell_atD fj 0 (v := .int .i64 FE) rfl
        have t1 := cell_atD fj 1 (v := .int .i64 FA.e) rfl
        have t2 := cell_atD fj 2 (v := .int .i64 FA.b) rfl
        have t3 := cell_atD fj 3 (v := .int .i64 FA.k) rfl
        have t4 := cell_atD fj 4 (v := .slice a2 FA.M.length p2) rfl
        have t5 := cell_atD fj 5 (v := .slice a3 FA.C.length p3) rfl
        have t6 := cell_atD fj 6 (v := .int .i64 FN.e) rfl
        have t7 := cell_atD fj 7 (v := .int .i64 FN.b) rfl
        have t8 := cell_atD fj 8 (v := .int .i64 FN.k) rfl
        have t9 := cell_atD fj 9 (v := .slice a4 FN.M.length p4) rfl
        have t10 := cell_atD fj 10 (v := .slice a5 FN.C.length p5) rfl
        have t11 := cell_atD fj 11 (v := .int .i64 F0) rfl
        have t12 := cell_atD fj 12 (v := .int .i64 F1) rfl
        clear fi fj
        refine bodyPost_ret (v := .tuple #[.agg #[.string ⟨S.s.toArray⟩, .int .i64 S.e], .agg #[.int .i64 FE, .int .i64 FA.e, .int .i64 FA.b, .int .i64 FA.k, .slice a2 FA.M.length p2, .slice a3 FA.C.length p3, .int .i64 FN.e, .int .i64 FN.b, .int .i64 FN.k, .slice a4 FN.M.length p4, .slice a5 FN.C.length p5, .int .i64 F0, .int .i64 F1]]) (by simp [results, Try.results17, go_sem, y0, y1, t0, t1, t2, t3, t4, t5, t6, t7, t8, t9, t10, t11, t12]) rfl ?_
        exact ⟨a2, p2, a3, p3, a4, p4, a5, p5, rfl, hL, HFN.out, hbf⟩
    · have hn2 : ((nL : Int) != 2) = true := by simp only [bne_iff_ne, ne_eq]; omega
      obtain ⟨hSf, hSe⟩ := HA.out.2.2.1 hE0.out (by rw [HNL.out]; exact h2)
      have hZ := HA.out.1 hSe
      have cf := rfail s1 3 w9
      rw [← hSf] at cf
      have HFz := Lib.hid hZ
      unfold rC at cf
      clear hSf hSe hZ h2
      go_wp2_with fail
      refine Calls.mono cf ?_
      rintro ev w8' ⟨rfl, hb8'⟩
      have H8 := Lib.hid (H9.out.1.below hb8')
      clear b0 b1 bf cf hb8'
      have z0 := cell_atD H8.out.1 0 (v := .string ⟨#[]⟩) rfl
      have z1 := cell_atD H8.out.1 1 (v := .int .i64 0) rfl
      have zf : ∀ j, w8'.frozen? ⟨w.heap.size + 1, j, none⟩ = false := fun j => by simp [World.frozen?, H8.out.1]
      have x0 := cell_atD H8.out.2.1 0 (v := .int .i64 0) rfl
      have x1 := cell_atD H8.out.2.1 1 (v := .int .i64 0) rfl
      have x2 := cell_atD H8.out.2.1 2 (v := .int .i64 0) rfl
      have x3 := cell_atD H8.out.2.1 3 (v := .int .i64 0) rfl
      have x4 := cell_atD H8.out.2.1 4 (v := .slice none 0 0) rfl
      have x5 := cell_atD H8.out.2.1 5 (v := .slice none 0 0) rfl
      have x6 := cell_atD H8.out.2.1 6 (v := .int .i64 0) rfl
      have x7 := cell_atD H8.out.2.1 7 (v := .int .i64 0) rfl
      have x8 := cell_atD H8.out.2.1 8 (v := .int .i64 0) rfl
      have x9 := cell_atD H8.out.2.1 9 (v := .slice none 0 0) rfl
      have x10 := cell_atD H8.out.2.1 10 (v := .slice none 0 0) rfl
      have x11 := cell_atD H8.out.2.1 11 (v := .int .i64 0) rfl
      have x12 := cell_atD H8.out.2.1 12 (v := .int .i64 0) rfl
      have xf : ∀ j, w8'.frozen? ⟨w.heap.size + 2, j, none⟩ = false := fun j => by simp [World.frozen?, H8.out.2.1]
      have A1 : (w8'.setCell ⟨w.heap.size + 1, 0, none⟩ (.string ⟨S.s.toArray⟩)).heap[w.heap.size + 1]? = some (.cells #[.string ⟨S.s.toArray⟩, .int .i64 0] 35) := heap_set_self H8.out.1 0 _
      have A2 : ((w8'.setCell ⟨w.heap.size + 1, 0, none⟩ (.string ⟨S.s.toArray⟩)).setCell ⟨w.heap.size + 1, 1, none⟩ (.int .i64 S.e)).heap[w.heap.size + 1]? = some (.cells #[.string ⟨S.s.toArray⟩, .int .i64 S.e] 35) := heap_set_self A1 1 _
      have AO : Only (w.heap.size + 1) w8' ((w8'.setCell ⟨w.heap.size + 1, 0, none⟩ (.string ⟨S.s.toArray⟩)).setCell ⟨w.heap.size + 1, 1, none⟩ (.int .i64 S.e)) := ((Only.refl _ _).set 0 _).set 1 _
      have hC1 := (AO.block _ (lt_heap H8.out.2.1) (by omega)).trans H8.out.2.1
      have g1 : (((w8'.setCell ⟨w.heap.size + 1, 0, none⟩ (.string ⟨S.s.toArray⟩)).setCell ⟨w.heap.size + 1, 1, none⟩ (.int .i64 S.e)).setCell ⟨w.heap.size + 2, 0, none⟩ (.int .i64 0)).heap[w.heap.size + 2]? = some (.cells #[.int .i64 0, .int .i64 0, .int .i64 0, .int .i64 0, .slice none 0 0, .slice none 0 0, .int .i64 0, .int .i64 0, .int .i64 0, .slice none 0 0, .slice none 0 0, .int .i64 0, .int .i64 0] 42) := heap_set_self hC1 0 _
      have g2 : ((((w8'.setCell ⟨w.heap.size + 1, 0, none⟩ (.string ⟨S.s.toArray⟩)).setCell ⟨w.heap.size + 1, 1, none⟩ (.int .i64 S.e)).setCell ⟨w.heap.size + 2, 0, none⟩ (.int .i64 0)).setCell ⟨w.heap.size + 2, 1, none⟩ (.int .i64 0)).heap[w.heap.size + 2]? = some (.cells #[.int .i64 0, .int .i64 0, .int .i64 0, .int .i64 0, .slice none 0 0, .slice none 0 0, .int .i64 0, .int .i64 0, .int .i64 0, .slice none 0 0, .slice none 0 0, .int .i64 0, .int .i64 0] 42) := heap_set_self g1 1 _
      have g3 : (((((w8'.setCell ⟨w.heap.size + 1, 0, none⟩ (.string ⟨S.s.toArray⟩)).setCell ⟨w.heap.size + 1, 1, none⟩ (.int .i64 S.e)).setCell ⟨w.heap.size + 2, 0, none⟩ (.int .i64 0)).setCell ⟨w.heap.size + 2, 1, none⟩ (.int .i64 0)).setCell ⟨w.heap.size + 2, 2, none⟩ (.int .i64 0)).heap[w.heap.size + 2]? = some (.cells #[.int .i64 0, .int .i64 0, .int .i64 0, .int .i64 0, .slice none 0 0, .slice none 0 0, .int .i64 0, .int .i64 0, .int .i64 0, .slice none 0 0, .slice none 0 0, .int .i64 0, .int .i64 0] 42) := heap_set_self g2 2 _
      have g4 : ((((((w8'.setCell ⟨w.heap.size + 1, 0, none⟩ (.string ⟨S.s.toArray⟩)).setCell ⟨w.heap.size + 1, 1, none⟩ (.int .i64 S.e)).setCell ⟨w.heap.size + 2, 0, none⟩ (.int .i64 0)).setCell ⟨w.heap.size + 2, 1, none⟩ (.int .i64 0)).setCell ⟨w.heap.size + 2, 2, none⟩ (.int .i64 0)).setCell ⟨w.heap.size + 2, 3, none⟩ (.int .i64 0)).heap[w.heap.size + 2]? = some (.cells #[.int .i64 0, .int .i64 0, .int .i64 0, .int .i64 0, .slice none 0 0, .slice none 0 0, .int .i64 0, .int .i64 0, .int .i64 0, .slice none 0 0, .slice none 0 0, .int .i64 0, .int .i64 0] 42) := heap_set_self g3 3 _
      have g5 : (((((((w8'.setCell ⟨w.heap.size + 1, 0, none⟩ (.string ⟨S.s.toArray⟩)).setCell ⟨w.heap.size + 1, 1, none⟩ (.int .i64 S.e)).setCell ⟨w.heap.size + 2, 0, none⟩ (.int .i64 0)).setCell ⟨w.heap.size + 2, 1, none⟩ (.int .i64 0)).setCell ⟨w.heap.size + 2, 2, none⟩ (.int .i64 0)).setCell ⟨w.heap.size + 2, 3, none⟩ (.int .i64 0)).setCell ⟨w.heap.size + 2, 4, none⟩ (.slice none 0 0)).heap[w.heap.size + 2]? = some (.cells #[.int .i64 0, .int .i64 0, .int .i64 0, .int .i64 0, .slice none 0 0, .slice none 0 0, .int .i64 0, .int .i64 0, .int .i64 0, .slice none 0 0, .slice none 0 0, .int .i64 0, .int .i64 0] 42) := heap_set_self g4 4 _
      have g6 : ((((((((w8'.setCell ⟨w.heap.size + 1, 0, none⟩ (.string ⟨S.s.toArray⟩)).setCell ⟨w.heap.size + 1, 1, none⟩ (.int .i64 S.e)).setCell ⟨w.heap.size + 2, 0, none⟩ (.int .i64 0)).setCell ⟨w.heap.size + 2, 1, none⟩ (.int .i64 0)).setCell ⟨w.heap.size + 2, 2, none⟩ (.int .i64 0)).setCell ⟨w.heap.size + 2, 3, none⟩ (.int .i64 0)).setCell ⟨w.heap.size + 2, 4, none⟩ (.slice none 0 0)).setCell ⟨w.heap.size + 2, 5, none⟩ (.slice none 0 0)).heap[w.heap.size + 2]? = some (.cells #[.int .i64 0, .int .i64 0, .int .i64 0, .int .i64 0, .slice none 0 0, .slice none 0 0, .int .i64 0, .int .i64 0, .int .i64 0, .slice none 0 0, .slice none 0 0, .int .i64 0, .int .i64 0] 42) := heap_set_self g5 5 _
      have g7 : (((((((((w8'.setCell ⟨w.heap.size + 1, 0, none⟩ (.string ⟨S.s.toArray⟩)).setCell ⟨w.heap.size + 1, 1, none⟩ (.int .i64 S.e)).setCell ⟨w.heap.size + 2, 0, none⟩ (.int .i64 0)).setCell ⟨w.heap.size + 2, 1, none⟩ (.int .i64 0)).setCell ⟨w.heap.size + 2, 2, none⟩ (.int .i64 0)).setCell ⟨w.heap.size + 2, 3, none⟩ (.int .i64 0)).setCell ⟨w.heap.size + 2, 4, none⟩ (.slice none 0 0)).setCell ⟨w.heap.size + 2, 5, none⟩ (.slice none 0 0)).setCell ⟨w.heap.size + 2, 6, none⟩ (.int .i64 0)).heap[w.heap.size + 2]? = some (.cells #[.int .i64 0, .int .i64 0, .int .i64 0, .int .i64 0, .slice none 0 0, .slice none 0 0, .int .i64 0, .int .i64 0, .int .i64 0, .slice none 0 0, .slice none 0 0, .int .i64 0, .int .i64 0] 42) := heap_set_self g6 6 _
      have g8 : ((((((((((w8'.setCell ⟨w.heap.size + 1, 0, none⟩ (.string ⟨S.s.toArray⟩)).setCell ⟨w.heap.size + 1, 1, none⟩ (.int .i64 S.e)).setCell ⟨w.heap.size + 2, 0, none⟩ (.int .i64 0)).setCell ⟨w.heap.size + 2, 1, none⟩ (.int .i64 0)).setCell ⟨w.heap.size + 2, 2, none⟩ (.int .i64 0)).setCell ⟨w.heap.size + 2, 3, none⟩ (.int .i64 0)).setCell ⟨w.heap.size + 2, 4, none⟩ (.slice none 0 0)).setCell ⟨w.heap.size + 2, 5, none⟩ (.slice none 0 0)).setCell ⟨w.heap.size + 2, 6, none⟩ (.int .i64 0)).setCell ⟨w.heap.size + 2, 7, none⟩ (.int .i64 0)).heap[w.heap.size + 2]? = some (.cells #[.int .i64 0, .int .i64 0, .int .i64 0, .int .i64 0, .slice none 0 0, .slice none 0 0, .int .i64 0, .int .i64 0, .int .i64 0, .slice none 0 0, .slice none 0 0, .int .i64 0, .int .i64 0] 42) := heap_set_self g7 7 _
      have g9 : (((((((((((w8'.setCell ⟨w.heap.size + 1, 0, none⟩ (.string ⟨S.s.toArray⟩)).setCell ⟨w.heap.size + 1, 1, none⟩ (.int .i64 S.e)).setCell ⟨w.heap.size + 2, 0, none⟩ (.int .i64 0)).setCell ⟨w.heap.size + 2, 1, none⟩ (.int .i64 0)).setCell ⟨w.heap.size + 2, 2, none⟩ (.int .i64 0)).setCell ⟨w.heap.size + 2, 3, none⟩ (.int .i64 0)).setCell ⟨w.heap.size + 2, 4, none⟩ (.slice none 0 0)).setCell ⟨w.heap.size + 2, 5, none⟩ (.slice none 0 0)).setCell ⟨w.heap.size + 2, 6, none⟩ (.int .i64 0)).setCell ⟨w.heap.size + 2, 7, none⟩ (.int .i64 0)).setCell ⟨w.heap.size + 2, 8, none⟩ (.int .i64 0)).heap[w.heap.size + 2]? = some (.cells #[.int .i64 0, .int .i64 0, .int .i64 0, .int .i64 0, .slice none 0 0, .slice none 0 0, .int .i64 0, .int .i64 0, .int .i64 0, .slice none 0 0, .slice none 0 0, .int .i64 0, .int .i64 0] 42) := heap_set_self g8 8 _
      have g10 : ((((((((((((w8'.setCell ⟨w.heap.size + 1, 0, none⟩ (.string ⟨S.s.toArray⟩)).setCell ⟨w.heap.size + 1, 1, none⟩ (.int .i64 S.e)).setCell ⟨w.heap.size + 2, 0, none⟩ (.int .i64 0)).setCell ⟨w.heap.size + 2, 1, none⟩ (.int .i64 0)).setCell ⟨w.heap.size + 2, 2, none⟩ (.int .i64 0)).setCell ⟨w.heap.size + 2, 3, none⟩ (.int .i64 0)).setCell ⟨w.heap.size + 2, 4, none⟩ (.slice none 0 0)).setCell ⟨w.heap.size + 2, 5, none⟩ (.slice none 0 0)).setCell ⟨w.heap.size + 2, 6, none⟩ (.int .i64 0)).setCell ⟨w.heap.size + 2, 7, none⟩ (.int .i64 0)).setCell ⟨w.heap.size + 2, 8, none⟩ (.int .i64 0)).setCell ⟨w.heap.size + 2, 9, none⟩ (.slice none 0 0)).heap[w.heap.size + 2]? = some (.cells #[.int .i64 0, .int .i64 0, .int .i64 0, .int .i64 0, .slice none 0 0, .slice none 0 0, .int .i64 0, .int .i64 0, .int .i64 0, .slice none 0 0, .slice none 0 0, .int .i64 0, .int .i64 0] 42) := heap_set_self g9 9 _
      have g11 : (((((((((((((w8'.setCell ⟨w.heap.size + 1, 0, none⟩ (.string ⟨S.s.toArray⟩)).setCell ⟨w.heap.size + 1, 1, none⟩ (.int .i64 S.e)).setCell ⟨w.heap.size + 2, 0, none⟩ (.int .i64 0)).setCell ⟨w.heap.size + 2, 1, none⟩ (.int .i64 0)).setCell ⟨w.heap.size + 2, 2, none⟩ (.int .i64 0)).setCell ⟨w.heap.size + 2, 3, none⟩ (.int .i64 0)).setCell ⟨w.heap.size + 2, 4, none⟩ (.slice none 0 0)).setCell ⟨w.heap.size + 2, 5, none⟩ (.slice none 0 0)).setCell ⟨w.heap.size + 2, 6, none⟩ (.int .i64 0)).setCell ⟨w.heap.size + 2, 7, none⟩ (.int .i64 0)).setCell ⟨w.heap.size + 2, 8, none⟩ (.int .i64 0)).setCell ⟨w.heap.size + 2, 9, none⟩ (.slice none 0 0)).setCell ⟨w.heap.size + 2, 10, none⟩ (.slice none 0 0)).heap[w.heap.size + 2]? = some (.cells #[.int .i64 0, .int .i64 0, .int .i64 0, .int .i64 0, .slice none 0 0, .slice none 0 0, .int .i64 0, .int .i64 0, .int .i64 0, .slice none 0 0, .slice none 0 0, .int .i64 0, .int .i64 0] 42) := heap_set_self g10 10 _
      have g12 : ((((((((((((((w8'.setCell ⟨w.heap.size + 1, 0, none⟩ (.string ⟨S.s.toArray⟩)).setCell ⟨w.heap.size + 1, 1, none⟩ (.int .i64 S.e)).setCell ⟨w.heap.size + 2, 0, none⟩ (.int .i64 0)).setCell ⟨w.heap.size + 2, 1, none⟩ (.int .i64 0)).setCell ⟨w.heap.size + 2, 2, none⟩ (.int .i64 0)).setCell ⟨w.heap.size + 2, 3, none⟩ (.int .i64 0)).setCell ⟨w.heap.size + 2, 4, none⟩ (.slice none 0 0)).setCell ⟨w.heap.size + 2, 5, none⟩ (.slice none 0 0)).setCell ⟨w.heap.size + 2, 6, none⟩ (.int .i64 0)).setCell ⟨w.heap.size + 2, 7, none⟩ (.int .i64 0)).setCell ⟨w.heap.size + 2, 8, none⟩ (.int .i64 0)).setCell ⟨w.heap.size + 2, 9, none⟩ (.slice none 0 0)).setCell ⟨w.heap.size + 2, 10, none⟩ (.slice none 0 0)).setCell ⟨w.heap.size + 2, 11, none⟩ (.int .i64 0)).heap[w.heap.size + 2]? = some (.cells #[.int .i64 0, .int .i64 0, .int .i64 0, .int .i64 0, .slice none 0 0, .slice none 0 0, .int .i64 0, .int .i64 0, .int .i64 0, .slice none 0 0, .slice none 0 0, .int .i64 0, .int .i64 0] 42) := heap_set_self g11 11 _
      have g13 : (((((((((((((((w8'.setCell ⟨w.heap.size + 1, 0, none⟩ (.string ⟨S.s.toArray⟩)).setCell ⟨w.heap.size + 1, 1, none⟩ (.int .i64 S.e)).setCell ⟨w.heap.size + 2, 0, none⟩ (.int .i64 0)).setCell ⟨w.heap.size + 2, 1, none⟩ (.int .i64 0)).setCell ⟨w.heap.size + 2, 2, none⟩ (.int .i64 0)).setCell ⟨w.heap.size + 2, 3, none⟩ (.int .i64 0)).setCell ⟨w.heap.size + 2, 4, none⟩ (.slice none 0 0)).setCell ⟨w.heap.size + 2, 5, none⟩ (.slice none 0 0)).setCell ⟨w.heap.size + 2, 6, none⟩ (.int .i64 0)).setCell ⟨w.heap.size + 2, 7, none⟩ (.int .i64 0)).setCell ⟨w.heap.size + 2, 8, none⟩ (.int .i64 0)).setCell ⟨w.heap.size + 2, 9, none⟩ (.slice none 0 0)).setCell ⟨w.heap.size + 2, 10, none⟩ (.slice none 0 0)).setCell ⟨w.heap.size + 2, 11, none⟩ (.int .i64 0)).setCell ⟨w.heap.size + 2, 12, none⟩ (.int .i64 0)).heap[w.heap.size + 2]? = some (.cells #[.int .i64 0, .int .i64 0, .int .i64 0, .int .i64 0, .slice none 0 0, .slice none 0 0, .int .i64 0, .int .i64 0, .int .i64 0, .slice none 0 0, .slice none 0 0, .int .i64 0, .int .i64 0] 42) := heap_set_self g12 12 _
      have gO : Only (w.heap.size + 2) ((w8'.setCell ⟨w.heap.size + 1, 0, none⟩ (.string ⟨S.s.toArray⟩)).setCell ⟨w.heap.size + 1, 1, none⟩ (.int .i64 S.e)) (((((((((((((((w8'.setCell ⟨w.heap.size + 1, 0, none⟩ (.string ⟨S.s.toArray⟩)).setCell ⟨w.heap.size + 1, 1, none⟩ (.int .i64 S.e)).setCell ⟨w.heap.size + 2, 0, none⟩ (.int .i64 0)).setCell ⟨w.heap.size + 2, 1, none⟩ (.int .i64 0)).setCell ⟨w.heap.size + 2, 2, none⟩ (.int .i64 0)).setCell ⟨w.heap.size + 2, 3, none⟩ (.int .i64 0)).setCell ⟨w.heap.size + 2, 4, none⟩ (.slice none 0 0)).setCell ⟨w.heap.size + 2, 5, none⟩ (.slice none 0 0)).setCell ⟨w.heap.size + 2, 6, none⟩ (.int .i64 0)).setCell ⟨w.heap.size + 2, 7, none⟩ (.int .i64 0)).setCell ⟨w.heap.size + 2, 8, none⟩ (.int .i64 0)).setCell ⟨w.heap.size + 2, 9, none⟩ (.slice none 0 0)).setCell ⟨w.heap.size + 2, 10, none⟩ (.slice none 0 0)).setCell ⟨w.heap.size + 2, 11, none⟩ (.int .i64 0)).setCell ⟨w.heap.size + 2, 12, none⟩ (.int .i64 0)) := (((((((((((((Only.refl _ _).set 0 _).set 1 _).set 2 _).set 3 _).set 4 _).set 5 _).set 6 _).set 7 _).set 8 _).set 9 _).set 10 _).set 11 _).set 12 _
      have GI := Lib.hid (And.intro ((gO.block _ (lt_heap A2) (by omega)).trans A2) g13)
      have GO := Lib.hid (And.intro AO gO)
      clear A1 A2 AO hC1 g1 g2 g3 g4 g5 g6 g7 g8 g9 g10 g11 g12 g13 gO
      go_wp2_with fail
      generalize (((((((((((((((w8'.setCell ⟨w.heap.size + 1, 0, none⟩ (.string ⟨S.s.toArray⟩)).setCell ⟨w.heap.size + 1, 1, none⟩ (.int .i64 S.e)).setCell ⟨w.heap.size + 2, 0, none⟩ (.int .i64 0)).setCell ⟨w.heap.size + 2, 1, none⟩ (.int .i64 0)).setCell ⟨w.heap.size + 2, 2, none⟩ (.int .i64 0)).setCell ⟨w.heap.size + 2, 3, none⟩ (.int .i64 0)).setCell ⟨w.heap.size + 2, 4, none⟩ (.slice none 0 0)).setCell ⟨w.heap.size + 2, 5, none⟩ (.slice none 0 0)).setCell ⟨w.heap.size + 2, 6, none⟩ (.int .i64 0)).setCell ⟨w.heap.size + 2, 7, none⟩ (.int .i64 0)).setCell ⟨w.heap.size + 2, 8, none⟩ (.int .i64 0)).setCell ⟨w.heap.size + 2, 9, none⟩ (.slice none 0 0)).setCell ⟨w.heap.size + 2, 10, none⟩ (.slice none 0 0)).setCell ⟨w.heap.size + 2, 11, none⟩ (.int .i64 0)).setCell ⟨w.heap.size + 2, 12, none⟩ (.int .i64 0)) = wf at *
      generalize ((w8'.setCell ⟨w.heap.size + 1, 0, none⟩ (.string ⟨S.s.toArray⟩)).setCell ⟨w.heap.size + 1, 1, none⟩ (.int .i64 S.e)) = wm at *
      obtain ⟨fi, fj⟩ := GI.out
      have y0 := cell_atD fi 0 (v := .string ⟨S.s.toArray⟩) rfl
      have y1 := cell_atD fi 1 (v := .int .i64 S.e) rfl
      have t0 := cell_atD fj 0 (v := .int .i64 0) rfl
      have t1 := cell_atD fj 1 (v := .int .i64 0) rfl
      have t2 := cell_atD fj 2 (v := .int .i64 0) rfl
      have t3 := cell_atD fj 3 (v := .int .i64 0) rfl
      have t4 := cell_atD fj 4 (v := .slice none 0 0) rfl
      have t5 := cell_atD fj 5 (v := .slice none 0 0) rfl
      have t6 := cell_atD fj 6 (v := .int .i64 0) rfl
      have t7 := cell_atD fj 7 (v := .int .i64 0) rfl
      have t8 := cell_atD fj 8 (v := .int .i64 0) rfl
      have t9 := cell_atD fj 9 (v := .slice none 0 0) rfl
      have t10 := cell_atD fj 10 (v := .slice none 0 0) rfl
      have t11 := cell_atD fj 11 (v := .int .i64 0) rfl
      have t12 := cell_atD fj 12 (v := .int .i64 0) rfl
      clear fi fj
      refine bodyPost_ret (v := .tuple #[.agg #[.string ⟨S.s.toArray⟩, .int .i64 S.e], .agg #[.int .i64 0, .int .i64 0, .int .i64 0, .int .i64 0, .slice none 0 0, .slice none 0 0, .int .i64 0, .int .i64 0, .int .i64 0, .slice none 0 0, .slice none 0 0, .int .i64 0, .int .i64 0]]) (by simp [results, Try.results17, go_sem, y0, y1, t0, t1, t2, t3, t4, t5, t6, t7, t8, t9, t10, t11, t12]) rfl ?_
      obtain ⟨e1, e2, e3, e4, e5⟩ := HFz.out
      refine ⟨none, 0, none, 0, none, 0, none, 0, by rw [e1, e2, e3, e4, e5]; rfl, by rw [e2]; exact ⟨World.ownsRow_nil _ _ _ _, World.ownsRow_nil _ _ _ _⟩, by rw [e3]; exact ⟨World.ownsRow_nil _ _ _ _, World.ownsRow_nil _ _ _ _⟩, (H8.out.2.2.2.1.trans (GO.out.1.below (by omega) H8.out.2.2.2.1.size)).trans (GO.out.2.below (by omega) (Nat.le_trans H8.out.2.2.2.1.size GO.out.1.size))⟩
  · have u1 : (s1.e != 0) = true := by simpa using hE
    have hSf := HA.out.2.1 hE
    have hZ := HA.out.1 (by rw [hSf]; exact hE)
    have HFz := Lib.hid (And.intro hSf hZ)
    clear hE hSf hZ
    have z0 := cell_atD H9.out.1.1 0 (v := .string ⟨#[]⟩) rfl
    have z1 := cell_atD H9.out.1.1 1 (v := .int .i64 0) rfl
    have zf : ∀ j, w9.frozen? ⟨w.heap.size + 1, j, none⟩ = false := fun j => by simp [World.frozen?, H9.out.1.1]
    have x0 := cell_atD H9.out.1.2.1 0 (v := .int .i64 0) rfl
    have x1 := cell_atD H9.out.1.2.1 1 (v := .int .i64 0) rfl
    have x2 := cell_atD H9.out.1.2.1 2 (v := .int .i64 0) rfl
    have x3 := cell_atD H9.out.1.2.1 3 (v := .int .i64 0) rfl
    have x4 := cell_atD H9.out.1.2.1 4 (v := .slice none 0 0) rfl
    have x5 := cell_atD H9.out.1.2.1 5 (v := .slice none 0 0) rfl
    have x6 := cell_atD H9.out.1.2.1 6 (v := .int .i64 0) rfl
    have x7 := cell_atD H9.out.1.2.1 7 (v := .int .i64 0) rfl
    have x8 := cell_atD H9.out.1.2.1 8 (v := .int .i64 0) rfl
    have x9 := cell_atD H9.out.1.2.1 9 (v := .slice none 0 0) rfl
    have x10 := cell_atD H9.out.1.2.1 10 (v := .slice none 0 0) rfl
    have x11 := cell_atD H9.out.1.2.1 11 (v := .int .i64 0) rfl
    have x12 := cell_atD H9.out.1.2.1 12 (v := .int .i64 0) rfl
    have xf : ∀ j, w9.frozen? ⟨w.heap.size + 2, j, none⟩ = false := fun j => by simp [World.frozen?, H9.out.1.2.1]
    have A1 : (w9.setCell ⟨w.heap.size + 1, 0, none⟩ (.string ⟨s1.s.toArray⟩)).heap[w.heap.size + 1]? = some (.cells #[.string ⟨s1.s.toArray⟩, .int .i64 0] 35) := heap_set_self H9.out.1.1 0 _
    have A2 : ((w9.setCell ⟨w.heap.size + 1, 0, none⟩ (.string ⟨s1.s.toArray⟩)).setCell ⟨w.heap.size + 1, 1, none⟩ (.int .i64 s1.e)).heap[w.heap.size + 1]? = some (.cells #[.string ⟨s1.s.toArray⟩, .int .i64 s1.e] 35) := heap_set_self A1 1 _
    have AO : Only (w.heap.size + 1) w9 ((w9.setCell ⟨w.heap.size + 1, 0, none⟩ (.string ⟨s1.s.toArray⟩)).setCell ⟨w.heap.size + 1, 1, none⟩ (.int .i64 s1.e)) := ((Only.refl _ _).set 0 _).set 1 _
    have hC1 := (AO.block _ (lt_heap H9.out.1.2.1) (by omega)).trans H9.out.1.2.1
    have g1 : (((w9.setCell ⟨w.heap.size + 1, 0, none⟩ (.string ⟨s1.s.toArray⟩)).setCell ⟨w.heap.size + 1, 1, none⟩ (.int .i64 s1.e)).setCell ⟨w.heap.size + 2, 0, none⟩ (.int .i64 0)).heap[w.heap.size + 2]? = some (.cells #[.int .i64 0, .int .i64 0, .int .i64 0, .int .i64 0, .slice none 0 0, .slice none 0 0, .int .i64 0, .int .i64 0, .int .i64 0, .slice none 0 0, .slice none 0 0, .int .i64 0, .int .i64 0] 42) := heap_set_self hC1 0 _
    have g2 : ((((w9.setCell ⟨w.heap.size + 1, 0, none⟩ (.string ⟨s1.s.toArray⟩)).setCell ⟨w.heap.size + 1, 1, none⟩ (.int .i64 s1.e)).setCell ⟨w.heap.size + 2, 0, none⟩ (.int .i64 0)).setCell ⟨w.heap.size + 2, 1, none⟩ (.int .i64 0)).heap[w.heap.size + 2]? = some (.cells #[.int .i64 0, .int .i64 0, .int .i64 0, .int .i64 0, .slice none 0 0, .slice none 0 0, .int .i64 0, .int .i64 0, .int .i64 0, .slice none 0 0, .slice none 0 0, .int .i64 0, .int .i64 0] 42) := heap_set_self g1 1 _
    have g3 : (((((w9.setCell ⟨w.heap.size + 1, 0, none⟩ (.string ⟨s1.s.toArray⟩)).setCell ⟨w.heap.size + 1, 1, none⟩ (.int .i64 s1.e)).setCell ⟨w.heap.size + 2, 0, none⟩ (.int .i64 0)).setCell ⟨w.heap.size + 2, 1, none⟩ (.int .i64 0)).setCell ⟨w.heap.size + 2, 2, none⟩ (.int .i64 0)).heap[w.heap.size + 2]? = some (.cells #[.int .i64 0, .int .i64 0, .int .i64 0, .int .i64 0, .slice none 0 0, .slice none 0 0, .int .i64 0, .int .i64 0, .int .i64 0, .slice none 0 0, .slice none 0 0, .int .i64 0, .int .i64 0] 42) := heap_set_self g2 2 _
    have g4 : ((((((w9.setCell ⟨w.heap.size + 1, 0, none⟩ (.string ⟨s1.s.toArray⟩)).setCell ⟨w.heap.size + 1, 1, none⟩ (.int .i64 s1.e)).setCell ⟨w.heap.size + 2, 0, none⟩ (.int .i64 0)).setCell ⟨w.heap.size + 2, 1, none⟩ (.int .i64 0)).setCell ⟨w.heap.size + 2, 2, none⟩ (.int .i64 0)).setCell ⟨w.heap.size + 2, 3, none⟩ (.int .i64 0)).heap[w.heap.size + 2]? = some (.cells #[.int .i64 0, .int .i64 0, .int .i64 0, .int .i64 0, .slice none 0 0, .slice none 0 0, .int .i64 0, .int .i64 0, .int .i64 0, .slice none 0 0, .slice none 0 0, .int .i64 0, .int .i64 0] 42) := heap_set_self g3 3 _
    have g5 : (((((((w9.setCell ⟨w.heap.size + 1, 0, none⟩ (.string ⟨s1.s.toArray⟩)).setCell ⟨w.heap.size + 1, 1, none⟩ (.int .i64 s1.e)).setCell ⟨w.heap.size + 2, 0, none⟩ (.int .i64 0)).setCell ⟨w.heap.size + 2, 1, none⟩ (.int .i64 0)).setCell ⟨w.heap.size + 2, 2, none⟩ (.int .i64 0)).setCell ⟨w.heap.size + 2, 3, none⟩ (.int .i64 0)).setCell ⟨w.heap.size + 2, 4, none⟩ (.slice none 0 0)).heap[w.heap.size + 2]? = some (.cells #[.int .i64 0, .int .i64 0, .int .i64 0, .int .i64 0, .slice none 0 0, .slice none 0 0, .int .i64 0, .int .i64 0, .int .i64 0, .slice none 0 0, .slice none 0 0, .int .i64 0, .int .i64 0] 42) := heap_set_self g4 4 _
    have g6 : ((((((((w9.setCell ⟨w.heap.size + 1, 0, none⟩ (.string ⟨s1.s.toArray⟩)).setCell ⟨w.heap.size + 1, 1, none⟩ (.int .i64 s1.e)).setCell ⟨w.heap.size + 2, 0, none⟩ (.int .i64 0)).setCell ⟨w.heap.size + 2, 1, none⟩ (.int .i64 0)).setCell ⟨w.heap.size + 2, 2, none⟩ (.int .i64 0)).setCell ⟨w.heap.size + 2, 3, none⟩ (.int .i64 0)).setCell ⟨w.heap.size + 2, 4, none⟩ (.slice none 0 0)).setCell ⟨w.heap.size + 2, 5, none⟩ (.slice none 0 0)).heap[w.heap.size + 2]? = some (.cells #[.int .i64 0, .int .i64 0, .int .i64 0, .int .i64 0, .slice none 0 0, .slice none 0 0, .int .i64 0, .int .i64 0, .int .i64 0, .slice none 0 0, .slice none 0 0, .int .i64 0, .int .i64 0] 42) := heap_set_self g5 5 _
    have g7 : (((((((((w9.setCell ⟨w.heap.size + 1, 0, none⟩ (.string ⟨s1.s.toArray⟩)).setCell ⟨w.heap.size + 1, 1, none⟩ (.int .i64 s1.e)).setCell ⟨w.heap.size + 2, 0, none⟩ (.int .i64 0)).setCell ⟨w.heap.size + 2, 1, none⟩ (.int .i64 0)).setCell ⟨w.heap.size + 2, 2, none⟩ (.int .i64 0)).setCell ⟨w.heap.size + 2, 3, none⟩ (.int .i64 0)).setCell ⟨w.heap.size + 2, 4, none⟩ (.slice none 0 0)).setCell ⟨w.heap.size + 2, 5, none⟩ (.slice none 0 0)).setCell ⟨w.heap.size + 2, 6, none⟩ (.int .i64 0)).heap[w.heap.size + 2]? = some (.cells #[.int .i64 0, .int .i64 0, .int .i64 0, .int .i64 0, .slice none 0 0, .slice none 0 0, .int .i64 0, .int .i64 0, .int .i64 0, .slice none 0 0, .slice none 0 0, .int .i64 0, .int .i64 0] 42) := heap_set_self g6 6 _
    have g8 : ((((((((((w9.setCell ⟨w.heap.size + 1, 0, none⟩ (.string ⟨s1.s.toArray⟩)).setCell ⟨w.heap.size + 1, 1, none⟩ (.int .i64 s1.e)).setCell ⟨w.heap.size + 2, 0, none⟩ (.int .i64 0)).setCell ⟨w.heap.size + 2, 1, none⟩ (.int .i64 0)).setCell ⟨w.heap.size + 2, 2, none⟩ (.int .i64 0)).setCell ⟨w.heap.size + 2, 3, none⟩ (.int .i64 0)).setCell ⟨w.heap.size + 2, 4, none⟩ (.slice none 0 0)).setCell ⟨w.heap.size + 2, 5, none⟩ (.slice none 0 0)).setCell ⟨w.heap.size + 2, 6, none⟩ (.int .i64 0)).setCell ⟨w.heap.size + 2, 7, none⟩ (.int .i64 0)).heap[w.heap.size + 2]? = some (.cells #[.int .i64 0, .int .i64 0, .int .i64 0, .int .i64 0, .slice none 0 0, .slice none 0 0, .int .i64 0, .int .i64 0, .int .i64 0, .slice none 0 0, .slice none 0 0, .int .i64 0, .int .i64 0] 42) := heap_set_self g7 7 _
    have g9 : (((((((((((w9.setCell ⟨w.heap.size + 1, 0, none⟩ (.string ⟨s1.s.toArray⟩)).setCell ⟨w.heap.size + 1, 1, none⟩ (.int .i64 s1.e)).setCell ⟨w.heap.size + 2, 0, none⟩ (.int .i64 0)).setCell ⟨w.heap.size + 2, 1, none⟩ (.int .i64 0)).setCell ⟨w.heap.size + 2, 2, none⟩ (.int .i64 0)).setCell ⟨w.heap.size + 2, 3, none⟩ (.int .i64 0)).setCell ⟨w.heap.size + 2, 4, none⟩ (.slice none 0 0)).setCell ⟨w.heap.size + 2, 5, none⟩ (.slice none 0 0)).setCell ⟨w.heap.size + 2, 6, none⟩ (.int .i64 0)).setCell ⟨w.heap.size + 2, 7, none⟩ (.int .i64 0)).setCell ⟨w.heap.size + 2, 8, none⟩ (.int .i64 0)).heap[w.heap.size + 2]? = some (.cells #[.int .i64 0, .int .i64 0, .int .i64 0, .int .i64 0, .slice none 0 0, .slice none 0 0, .int .i64 0, .int .i64 0, .int .i64 0, .slice none 0 0, .slice none 0 0, .int .i64 0, .int .i64 0] 42) := heap_set_self g8 8 _
    have g10 : ((((((((((((w9.setCell ⟨w.heap.size + 1, 0, none⟩ (.string ⟨s1.s.toArray⟩)).setCell ⟨w.heap.size + 1, 1, none⟩ (.int .i64 s1.e)).setCell ⟨w.heap.size + 2, 0, none⟩ (.int .i64 0)).setCell ⟨w.heap.size + 2, 1, none⟩ (.int .i64 0)).setCell ⟨w.heap.size + 2, 2, none⟩ (.int .i64 0)).setCell ⟨w.heap.size + 2, 3, none⟩ (.int .i64 0)).setCell ⟨w.heap.size + 2, 4, none⟩ (.slice none 0 0)).setCell ⟨w.heap.size + 2, 5, none⟩ (.slice none 0 0)).setCell ⟨w.heap.size + 2, 6, none⟩ (.int .i64 0)).setCell ⟨w.heap.size + 2, 7, none⟩ (.int .i64 0)).setCell ⟨w.heap.size + 2, 8, none⟩ (.int .i64 0)).setCell ⟨w.heap.size + 2, 9, none⟩ (.slice none 0 0)).heap[w.heap.size + 2]? = some (.cells #[.int .i64 0, .int .i64 0, .int .i64 0, .int .i64 0, .slice none 0 0, .slice none 0 0, .int .i64 0, .int .i64 0, .int .i64 0, .slice none 0 0, .slice none 0 0, .int .i64 0, .int .i64 0] 42) := heap_set_self g9 9 _
    have g11 : (((((((((((((w9.setCell ⟨w.heap.size + 1, 0, none⟩ (.string ⟨s1.s.toArray⟩)).setCell ⟨w.heap.size + 1, 1, none⟩ (.int .i64 s1.e)).setCell ⟨w.heap.size + 2, 0, none⟩ (.int .i64 0)).setCell ⟨w.heap.size + 2, 1, none⟩ (.int .i64 0)).setCell ⟨w.heap.size + 2, 2, none⟩ (.int .i64 0)).setCell ⟨w.heap.size + 2, 3, none⟩ (.int .i64 0)).setCell ⟨w.heap.size + 2, 4, none⟩ (.slice none 0 0)).setCell ⟨w.heap.size + 2, 5, none⟩ (.slice none 0 0)).setCell ⟨w.heap.size + 2, 6, none⟩ (.int .i64 0)).setCell ⟨w.heap.size + 2, 7, none⟩ (.int .i64 0)).setCell ⟨w.heap.size + 2, 8, none⟩ (.int .i64 0)).setCell ⟨w.heap.size + 2, 9, none⟩ (.slice none 0 0)).setCell ⟨w.heap.size + 2, 10, none⟩ (.slice none 0 0)).heap[w.heap.size + 2]? = some (.cells #[.int .i64 0, .int .i64 0, .int .i64 0, .int .i64 0, .slice none 0 0, .slice none 0 0, .int .i64 0, .int .i64 0, .int .i64 0, .slice none 0 0, .slice none 0 0, .int .i64 0, .int .i64 0] 42) := heap_set_self g10 10 _
    have g12 : ((((((((((((((w9.setCell ⟨w.heap.size + 1, 0, none⟩ (.string ⟨s1.s.toArray⟩)).setCell ⟨w.heap.size + 1, 1, none⟩ (.int .i64 s1.e)).setCell ⟨w.heap.size + 2, 0, none⟩ (.int .i64 0)).setCell ⟨w.heap.size + 2, 1, none⟩ (.int .i64 0)).setCell ⟨w.heap.size + 2, 2, none⟩ (.int .i64 0)).setCell ⟨w.heap.size + 2, 3, none⟩ (.int .i64 0)).setCell ⟨w.heap.size + 2, 4, none⟩ (.slice none 0 0)).setCell ⟨w.heap.size + 2, 5, none⟩ (.slice none 0 0)).setCell ⟨w.heap.size + 2, 6, none⟩ (.int .i64 0)).setCell ⟨w.heap.size + 2, 7, none⟩ (.int .i64 0)).setCell ⟨w.heap.size + 2, 8, none⟩ (.int .i64 0)).setCell ⟨w.heap.size + 2, 9, none⟩ (.slice none 0 0)).setCell ⟨w.heap.size + 2, 10, none⟩ (.slice none 0 0)).setCell ⟨w.heap.size + 2, 11, none⟩ (.int .i64 0)).heap[w.heap.size + 2]? = some (.cells #[.int .i64 0, .int .i64 0, .int .i64 0, .int .i64 0, .slice none 0 0, .slice none 0 0, .int .i64 0, .int .i64 0, .int .i64 0, .slice none 0 0, .slice none 0 0, .int .i64 0, .int .i64 0] 42) := heap_set_self g11 11 _
    have g13 : (((((((((((((((w9.setCell ⟨w.heap.size + 1, 0, none⟩ (.string ⟨s1.s.toArray⟩)).setCell ⟨w.heap.size + 1, 1, none⟩ (.int .i64 s1.e)).setCell ⟨w.heap.size + 2, 0, none⟩ (.int .i64 0)).setCell ⟨w.heap.size + 2, 1, none⟩ (.int .i64 0)).setCell ⟨w.heap.size + 2, 2, none⟩ (.int .i64 0)).setCell ⟨w.heap.size + 2, 3, none⟩ (.int .i64 0)).setCell ⟨w.heap.size + 2, 4, none⟩ (.slice none 0 0)).setCell ⟨w.heap.size + 2, 5, none⟩ (.slice none 0 0)).setCell ⟨w.heap.size + 2, 6, none⟩ (.int .i64 0)).setCell ⟨w.heap.size + 2, 7, none⟩ (.int .i64 0)).setCell ⟨w.heap.size + 2, 8, none⟩ (.int .i64 0)).setCell ⟨w.heap.size + 2, 9, none⟩ (.slice none 0 0)).setCell ⟨w.heap.size + 2, 10, none⟩ (.slice none 0 0)).setCell ⟨w.heap.size + 2, 11, none⟩ (.int .i64 0)).setCell ⟨w.heap.size + 2, 12, none⟩ (.int .i64 0)).heap[w.heap.size + 2]? = some (.cells #[.int .i64 0, .int .i64 0, .int .i64 0, .int .i64 0, .slice none 0 0, .slice none 0 0, .int .i64 0, .int .i64 0, .int .i64 0, .slice none 0 0, .slice none 0 0, .int .i64 0, .int .i64 0] 42) := heap_set_self g12 12 _
    have gO : Only (w.heap.size + 2) ((w9.setCell ⟨w.heap.size + 1, 0, none⟩ (.string ⟨s1.s.toArray⟩)).setCell ⟨w.heap.size + 1, 1, none⟩ (.int .i64 s1.e)) (((((((((((((((w9.setCell ⟨w.heap.size + 1, 0, none⟩ (.string ⟨s1.s.toArray⟩)).setCell ⟨w.heap.size + 1, 1, none⟩ (.int .i64 s1.e)).setCell ⟨w.heap.size + 2, 0, none⟩ (.int .i64 0)).setCell ⟨w.heap.size + 2, 1, none⟩ (.int .i64 0)).setCell ⟨w.heap.size + 2, 2, none⟩ (.int .i64 0)).setCell ⟨w.heap.size + 2, 3, none⟩ (.int .i64 0)).setCell ⟨w.heap.size + 2, 4, none⟩ (.slice none 0 0)).setCell ⟨w.heap.size + 2, 5, none⟩ (.slice none 0 0)).setCell ⟨w.heap.size + 2, 6, none⟩ (.int .i64 0)).setCell ⟨w.heap.size + 2, 7, none⟩ (.int .i64 0)).setCell ⟨w.heap.size + 2, 8, none⟩ (.int .i64 0)).setCell ⟨w.heap.size + 2, 9, none⟩ (.slice none 0 0)).setCell ⟨w.heap.size + 2, 10, none⟩ (.slice none 0 0)).setCell ⟨w.heap.size + 2, 11, none⟩ (.int .i64 0)).setCell ⟨w.heap.size + 2, 12, none⟩ (.int .i64 0)) := (((((((((((((Only.refl _ _).set 0 _).set 1 _).set 2 _).set 3 _).set 4 _).set 5 _).set 6 _).set 7 _).set 8 _).set 9 _).set 10 _).set 11 _).set 12 _
    have GI := Lib.hid (And.intro ((gO.block _ (lt_heap A2) (by omega)).trans A2) g13)
    have GO := Lib.hid (And.intro AO gO)
    clear A1 A2 AO hC1 g1 g2 g3 g4 g5 g6 g7 g8 g9 g10 g11 g12 g13 gO
    go_wp2_with fail
    generalize (((((((((((((((w9.setCell ⟨w.heap.size + 1, 0, none⟩ (.string ⟨s1.s.toArray⟩)).setCell ⟨w.heap.size + 1, 1, none⟩ (.int .i64 s1.e)).setCell ⟨w.heap.size + 2, 0, none⟩ (.int .i64 0)).setCell ⟨w.heap.size + 2, 1, none⟩ (.int .i64 0)).setCell ⟨w.heap.size + 2, 2, none⟩ (.int .i64 0)).setCell ⟨w.heap.size + 2, 3, none⟩ (.int .i64 0)).setCell ⟨w.heap.size + 2, 4, none⟩ (.slice none 0 0)).setCell ⟨w.heap.size + 2, 5, none⟩ (.slice none 0 0)).setCell ⟨w.heap.size + 2, 6, none⟩ (.int .i64 0)).setCell ⟨w.heap.size + 2, 7, none⟩ (.int .i64 0)).setCell ⟨w.heap.size + 2, 8, none⟩ (.int .i64 0)).setCell ⟨w.heap.size + 2, 9, none⟩ (.slice none 0 0)).setCell ⟨w.heap.size + 2, 10, none⟩ (.slice none 0 0)).setCell ⟨w.heap.size + 2, 11, none⟩ (.int .i64 0)).setCell ⟨w.heap.size + 2, 12, none⟩ (.int .i64 0)) = wf at *
    generalize ((w9.setCell ⟨w.heap.size + 1, 0, none⟩ (.string ⟨s1.s.toArray⟩)).setCell ⟨w.heap.size + 1, 1, none⟩ (.int .i64 s1.e)) = wm at *
    obtain ⟨fi, fj⟩ := GI.out
    have y0 := cell_atD fi 0 (v := .string ⟨s1.s.toArray⟩) rfl
    have y1 := cell_atD fi 1 (v := .int .i64 s1.e) rfl
    have t0 := cell_atD fj 0 (v := .int .i64 0) rfl
    have t1 := cell_atD fj 1 (v := .int .i64 0) rfl
    have t2 := cell_atD fj 2 (v := .int .i64 0) rfl
    have t3 := cell_atD fj 3 (v := .int .i64 0) rfl
    have t4 := cell_atD fj 4 (v := .slice none 0 0) rfl
    have t5 := cell_atD fj 5 (v := .slice none 0 0) rfl
    have t6 := cell_atD fj 6 (v := .int .i64 0) rfl
    have t7 := cell_atD fj 7 (v := .int .i64 0) rfl
    have t8 := cell_atD fj 8 (v := .int .i64 0) rfl
    have t9 := cell_atD fj 9 (v := .slice none 0 0) rfl
    have t10 := cell_atD fj 10 (v := .slice none 0 0) rfl
    have t11 := cell_atD fj 11 (v := .int .i64 0) rfl
    have t12 := cell_atD fj 12 (v := .int .i64 0) rfl
    clear fi fj
    refine bodyPost_ret (v := .tuple #[.agg #[.string ⟨s1.s.toArray⟩, .int .i64 s1.e], .agg #[.int .i64 0, .int .i64 0, .int .i64 0, .int .i64 0, .slice none 0 0, .slice none 0 0, .int .i64 0, .int .i64 0, .int .i64 0, .slice none 0 0, .slice none 0 0, .int .i64 0, .int .i64 0]]) (by simp [results, Try.results17, go_sem, y0, y1, t0, t1, t2, t3, t4, t5, t6, t7, t8, t9, t10, t11, t12]) rfl ?_
    obtain ⟨e0, e1, e2, e3, e4, e5⟩ := HFz.out
    refine ⟨none, 0, none, 0, none, 0, none, 0, by rw [e0, e1, e2, e3, e4, e5]; rfl, by rw [e2]; exact ⟨World.ownsRow_nil _ _ _ _, World.ownsRow_nil _ _ _ _⟩, by rw [e3]; exact ⟨World.ownsRow_nil _ _ _ _, World.ownsRow_nil _ _ _ _⟩, (H9.out.1.2.2.2.1.trans (GO.out.1.below (by omega) H9.out.1.2.2.2.1.size)).trans (GO.out.2.below (by omega) (Nat.le_trans H9.out.1.2.2.2.1.size GO.out.1.size))⟩
end Go.Proofs.Ytjaaddjbmimjoaa
