/-
  Several texts, laid together.
-/
import Derived.Test.YtlhjgpedmnjbpaaMg26
import Derived.Test.YtlhjgpedmnjbpaaMg13
import Derived.Test.YtlhjgpedmnjbpaaMg24
import Derived.Test.YtlhjgpedmnjbpaaMg22
/-
  tarnref13.Take.
-/

namespace Go.Proofs.Ytlhjgpedmnjbpaa
open Go.RowKit
set_option linter.unusedVariables false
set_option linter.unusedSimpArgs false

def RET (w : World) (t x : Int) (c : CF) (S : RS) (ev : Ending) (w' : World) : Prop :=
  ∃ d1 s1 d2 s2, ev = .returned (.tuple #[rC S, .agg #[.int .i64 t, .int .i64 x, .int .i64 c.e, .int .i64 c.b, .int .i64 c.k, .slice d1 c.M.length s1, .slice d2 c.C.length s2]]) ∧ CFO c w.heap.size w' (.slice d1 c.M.length s1) (.slice d2 c.C.length s2) ∧ Below w.heap.size w w'
theorem ent_a (q : RS) (h : (q.numS 1048576).cmdS.e ≠ 0) : q.entS = (q.numS 1048576).cmdS ∧ q.entT = 0 ∧ q.entX = 0 ∧ q.entC = ⟨0, 0, 0, [], []⟩ := by
  have h2 : q.entS = (q.numS 1048576).cmdS := by unfold RS.entS; split; rfl; exact fail_on h 3
  exact ⟨h2, by rw [RS.entT, h2, if_pos h], by rw [RS.entX, h2, if_pos h], by rw [RS.entC, h2, if_pos h]⟩
theorem ent_b (q : RS) (h : (q.numS 1048576).cmdS.e = 0) (m : mayE (q.numV 1048576) (q.numS 1048576).cmdK (q.numS 1048576).cmdV = false) : q.entS = (q.numS 1048576).cmdS.fail 3 ∧ q.entS.e ≠ 0 ∧ q.entT = 0 ∧ q.entX = 0 ∧ q.entC = ⟨0, 0, 0, [], []⟩ := by
  have he : ((q.numS 1048576).cmdS.fail 3).e ≠ 0 := by rw [fail_off h 3 (by decide)]; decide
  have h2 : q.entS = (q.numS 1048576).cmdS.fail 3 := by unfold RS.entS; rw [m, if_neg (by decide)]
  exact ⟨h2, by rw [h2]; exact he, by rw [RS.entT, h2, if_pos he], by rw [RS.entX, h2, if_pos he], by rw [RS.entC, h2, if_pos he]⟩
theorem ent_c (q : RS) (h : (q.numS 1048576).cmdS.e = 0) (m : mayE (q.numV 1048576) (q.numS 1048576).cmdK (q.numS 1048576).cmdV = true) : q.entS = (q.numS 1048576).cmdS ∧ q.entT = q.numV 1048576 ∧ q.entX = (q.numS 1048576).cmdK ∧ q.entC = (q.numS 1048576).cmdV := by
  have h2 : q.entS = (q.numS 1048576).cmdS := by unfold RS.entS; rw [m, if_pos rfl]
  exact ⟨h2, by rw [RS.entT, h2, if_neg (by simpa using h)], by rw [RS.entX, h2, if_neg (by simpa using h)], by rw [RS.entC, h2, if_neg (by simpa using h)]⟩
set_option maxHeartbeats 6400000 in
set_option maxRecDepth 100000 in
theorem etakeR (q : RS) (w : World) (hok : ROk q) (hl : q.s.length ≤ 1000000) :
    Calls Try.prog 28 #[rC q] w (RET w q.entT q.entX q.entC q.entS) := by
  have k1 := hok.num 1048576
  have l1 := Nat.le_trans (numS_len q 1048576) hl
  have c1 : ∀ w, Calls Try.prog 84 #[rC q, .int .i64 1048576] w fun e w' => e = .returned (.tuple #[rC (q.numS 1048576), .int .i64 (q.numV 1048576 : Nat)]) ∧ Below w.heap.size w w' := fun w => rintG q 1048576 w (by decide) (by decide) hok hl
  have c2 := fun w => dtakeR (q.numS 1048576) w k1 l1
  have ca := ent_a q
  have cb := ent_b q
  have cc := ent_c q
  obtain ⟨S, hS⟩ : ∃ S, q.entS = S := ⟨_, rfl⟩
  obtain ⟨F, hF⟩ : ∃ F, q.entC = F := ⟨_, rfl⟩
  obtain ⟨FT, hFT⟩ : ∃ F, q.entT = F := ⟨_, rfl⟩
  obtain ⟨FX, hFX⟩ : ∃ F, q.entX = F := ⟨_, rfl⟩
  obtain ⟨q1, hq1⟩ : ∃ q1, q.numS 1048576 = q1 := ⟨_, rfl⟩
  obtain ⟨U, hU⟩ : ∃ U : Int, (q.numV 1048576 : Int) = U := ⟨_, rfl⟩
  obtain ⟨c, hc⟩ : ∃ c, q1.cmdV = c := ⟨_, rfl⟩
  obtain ⟨x, hx⟩ : ∃ c, q1.cmdK = c := ⟨_, rfl⟩
  obtain ⟨s1, hs1⟩ : ∃ s1, q1.cmdS = s1 := ⟨_, rfl⟩
  rw [hS, hF, hFT, hFX, hq1, hs1] at ca
  rw [hS, hF, hFT, hFX, hq1, hU, hx, hc, hs1] at cb cc
  rw [hS, hF, hFT, hFX]
  simp only [hq1, hU] at c1
  simp only [hq1, hx, hc, hs1] at c2
  have HA := Lib.hid (And.intro ca (And.intro cb cc))
  have C2 := Lib.hid c2
  clear hS hF hFT hFX hc hs1 hq1 hU hx ca cb cc hok hl k1 l1 c2
  obtain ⟨s, er⟩ := q
  unfold rC at c1
  unfold rC
  simp only at c1 ⊢
  obtain ⟨h0, h1, h2, hb, hz⟩ := three_alloc w #[.string ⟨s.toArray⟩, .int .i64 er] #[.string ⟨#[]⟩, .int .i64 0] #[.int .i64 0, .int .i64 0, .int .i64 0, .int .i64 0, .int .i64 0, .slice none 0 0, .slice none 0 0] 35 35 52
  go_enter Try.func28, Try.ntmps28
  go_upto_region 1 with fail
  generalize ((w.alloc (.cells #[.string ⟨s.toArray⟩, .int .i64 er] 35)).alloc (.cells #[.string ⟨#[]⟩, .int .i64 0] 35)).alloc (.cells #[.int .i64 0, .int .i64 0, .int .i64 0, .int .i64 0, .int .i64 0, .slice none 0 0, .slice none 0 0] 52) = w1 at *
  have c0 := cell_atD h0 0 (v := .string ⟨s.toArray⟩) rfl
  have c01 := cell_atD h0 1 (v := .int .i64 er) rfl
  have H1 := Lib.hid (And.intro h1 (And.intro h2 (And.intro hb hz)))
  clear h0 h1 h2 hb hz
  go_wp2_with fail
  refine Calls.mono (c1 w1) ?_
  rintro ev w2 ⟨rfl, hb2⟩
  obtain ⟨h1, h2, hb, hz⟩ := H1.out
  have hz2 : w.heap.size + 3 ≤ w2.heap.size := by have := hb2.size; omega
  have hP := heap_alloc_self w2 (.cells #[.string ⟨q1.s.toArray⟩, .int .i64 q1.e] 35)
  have hb23 : Below w2.heap.size w2 (w2.alloc (.cells #[.string ⟨q1.s.toArray⟩, .int .i64 q1.e] 35)) := (Below.refl _ _).alloc (Nat.le_refl _) _
  have HT := Lib.hid (And.intro (show Thr #[.int .i64 0, .int .i64 0, .int .i64 0, .int .i64 0, .int .i64 0, .slice none 0 0, .slice none 0 0] 52 w2.heap.size w q1 (w2.alloc (.cells #[.string ⟨q1.s.toArray⟩, .int .i64 q1.e] 35)) from
    ⟨below_at (hb2.trans (hb23.mono hb2.size)) (lt_heap h1) h1, below_at (hb2.trans (hb23.mono hb2.size)) (lt_heap h2) h2, hP, hb.trans ((hb2.trans (hb23.mono hb2.size)).mono hb.size), hz2⟩) (show w2.heap.size < (w2.alloc (.cells #[.string ⟨q1.s.toArray⟩, .int .i64 q1.e] 35)).heap.size by simp))
  clear h1 h2 hb hz hb2 hz2 hP hb23 H1 c0 c01 c1
  go_upto_region 2 with fail
  generalize w2.alloc (.cells #[.string ⟨q1.s.toArray⟩, .int .i64 q1.e] 35) = w3 at *
  obtain ⟨Nq, hNq⟩ : ∃ N, w2.heap.size = N := ⟨_, rfl⟩
  rw [hNq] at HT
  try rw [hNq]
  clear hNq
  obtain ⟨b0, b1, bf⟩ := two_cellsD HT.out.1.2.2.1
  have ci := C2.out w3
  unfold rC at ci
  go_wp2_with fail
  refine Calls.mono ci ?_
  rintro ev w4 ⟨a2, p2, a3, p3, rfl, hL4, hb4⟩
  unfold rC
  have HT4 := HT.out.1.below hb4
  have hqc : Nq < w4.heap.size := Nat.lt_of_lt_of_le HT.out.2 hb4.size
  have hL : CFO c (Nq + 1) w4 (.slice a2 c.M.length p2) (.slice a3 c.C.length p3) := CFO.base hL4 HT.out.2
  clear b0 b1 bf ci hb4 C2 HT hL4
  obtain ⟨b0, b1, bf⟩ := two_cellsD HT4.2.2.1
  have s1' : (w4.setCell ⟨Nq, 0, none⟩ (.string ⟨s1.s.toArray⟩)).heap[Nq]? = some (.cells #[.string ⟨s1.s.toArray⟩, .int .i64 q1.e] 35) := heap_set_self HT4.2.2.1 0 _
  have s2 : ((w4.setCell ⟨Nq, 0, none⟩ (.string ⟨s1.s.toArray⟩)).setCell ⟨Nq, 1, none⟩ (.int .i64 s1.e)).heap[Nq]? = some (.cells #[.string ⟨s1.s.toArray⟩, .int .i64 s1.e] 35) := heap_set_self s1' 1 _
  have sO : Only (Nq) w4 ((w4.setCell ⟨Nq, 0, none⟩ (.string ⟨s1.s.toArray⟩)).setCell ⟨Nq, 1, none⟩ (.int .i64 s1.e)) := ((Only.refl _ _).set 0 _).set 1 _
  have hz5 : ((w4.setCell ⟨Nq, 0, none⟩ (.string ⟨s1.s.toArray⟩)).setCell ⟨Nq, 1, none⟩ (.int .i64 s1.e)).heap.size = w4.heap.size := by simp
  have hP := heap_alloc_self ((w4.setCell ⟨Nq, 0, none⟩ (.string ⟨s1.s.toArray⟩)).setCell ⟨Nq, 1, none⟩ (.int .i64 s1.e)) (.cells #[.int .i64 x, .int .i64 c.e, .int .i64 c.b, .int .i64 c.k, .slice a2 c.M.length p2, .slice a3 c.C.length p3] 26)
  have hb56 : Below ((w4.setCell ⟨Nq, 0, none⟩ (.string ⟨s1.s.toArray⟩)).setCell ⟨Nq, 1, none⟩ (.int .i64 s1.e)).heap.size ((w4.setCell ⟨Nq, 0, none⟩ (.string ⟨s1.s.toArray⟩)).setCell ⟨Nq, 1, none⟩ (.int .i64 s1.e)) (((w4.setCell ⟨Nq, 0, none⟩ (.string ⟨s1.s.toArray⟩)).setCell ⟨Nq, 1, none⟩ (.int .i64 s1.e)).alloc (.cells #[.int .i64 x, .int .i64 c.e, .int .i64 c.b, .int .i64 c.k, .slice a2 c.M.length p2, .slice a3 c.C.length p3] 26)) := (Below.refl _ _).alloc (Nat.le_refl _) _
  rw [hz5] at hP
  have H5 := Lib.hid (And.intro ((HT4.over sO s2).below hb56) (And.intro hP (And.intro ((hL.only sO (by omega)).below hb56) (show Nq < (((w4.setCell ⟨Nq, 0, none⟩ (.string ⟨s1.s.toArray⟩)).setCell ⟨Nq, 1, none⟩ (.int .i64 s1.e)).alloc (.cells #[.int .i64 x, .int .i64 c.e, .int .i64 c.b, .int .i64 c.k, .slice a2 c.M.length p2, .slice a3 c.C.length p3] 26)).heap.size by simp; omega))))
  clear HT4 hL s1' s2 sO hz5 hP hb56
  go_upto_region 3 with fail
  clear b0 b1 bf
  generalize ((w4.setCell ⟨Nq, 0, none⟩ (.string ⟨s1.s.toArray⟩)).setCell ⟨Nq, 1, none⟩ (.int .i64 s1.e)).alloc (.cells #[.int .i64 x, .int .i64 c.e, .int .i64 c.b, .int .i64 c.k, .slice a2 c.M.length p2, .slice a3 c.C.length p3] 26) = w5 at *
  obtain ⟨Nc, hNc⟩ : ∃ N, w4.heap.size = N := ⟨_, rfl⟩
  rw [hNc] at H5
  try rw [hNc]
  clear hNc hqc
  have n0 := cell_atD H5.out.2.1 0 (v := .int .i64 x) rfl
  have n1 := cell_atD H5.out.2.1 1 (v := .int .i64 c.e) rfl
  have n2 := cell_atD H5.out.2.1 2 (v := .int .i64 c.b) rfl
  have n3 := cell_atD H5.out.2.1 3 (v := .int .i64 c.k) rfl
  have n4 := cell_atD H5.out.2.1 4 (v := .slice a2 c.M.length p2) rfl
  have n5 := cell_atD H5.out.2.1 5 (v := .slice a3 c.C.length p3) rfl
  have hP := heap_alloc_self w5 (.cells #[.int .i64 U, .int .i64 x, .int .i64 c.e, .int .i64 c.b, .int .i64 c.k, .slice a2 c.M.length p2, .slice a3 c.C.length p3] 52)
  have hb67 : Below w5.heap.size w5 (w5.alloc (.cells #[.int .i64 U, .int .i64 x, .int .i64 c.e, .int .i64 c.b, .int .i64 c.k, .slice a2 c.M.length p2, .slice a3 c.C.length p3] 52)) := (Below.refl _ _).alloc (Nat.le_refl _) _
  have H7 := Lib.hid (And.intro (H5.out.1.below hb67) (And.intro H5.out.2.2.2 (And.intro hP (H5.out.2.2.1.below hb67))))
  clear hP hb67 H5
  go_upto_region 4 with fail
  clear n0 n1 n2 n3 n4 n5
  generalize w5.alloc (.cells #[.int .i64 U, .int .i64 x, .int .i64 c.e, .int .i64 c.b, .int .i64 c.k, .slice a2 c.M.length p2, .slice a3 c.C.length p3] 52) = w7 at *
  obtain ⟨Nx, hNx⟩ : ∃ N, w5.heap.size = N := ⟨_, rfl⟩
  rw [hNx] at H7
  try rw [hNx]
  clear hNx
  obtain ⟨b0, b1, bf⟩ := two_cellsD H7.out.1.2.2.1
  have x0 := cell_atD H7.out.2.2.1 0 (v := .int .i64 U) rfl
  have x1 := cell_atD H7.out.2.2.1 1 (v := .int .i64 x) rfl
  have x2 := cell_atD H7.out.2.2.1 2 (v := .int .i64 c.e) rfl
  have x3 := cell_atD H7.out.2.2.1 3 (v := .int .i64 c.b) rfl
  have x4 := cell_atD H7.out.2.2.1 4 (v := .int .i64 c.k) rfl
  have x5 := cell_atD H7.out.2.2.1 5 (v := .slice a2 c.M.length p2) rfl
  have x6 := cell_atD H7.out.2.2.1 6 (v := .slice a3 c.C.length p3) rfl
  by_cases hE : s1.e = 0
  · have u1 : (s1.e == 0) = true := by simpa using hE
    have hE0 := Lib.hid hE
    have cm := rmayE U x c a2 a3 p2 p3 w7 (H7.out.2.2.2.at_)
    obtain ⟨mb, hmb⟩ : ∃ mb, mayE U x c = mb := ⟨_, rfl⟩
    rw [hmb] at cm
    have HMB := Lib.hid hmb
    clear hmb hE
    go_wp2_with fail
    refine Calls.mono cm ?_
    rintro ev w8 ⟨rfl, hb8⟩
    have H8 := Lib.hid (And.intro (H7.out.1.below hb8) (And.intro H7.out.2.1 (And.intro (below_at hb8 (lt_heap H7.out.2.2.1) H7.out.2.2.1) (H7.out.2.2.2.below hb8))))
    clear b0 b1 bf x0 x1 x2 x3 x4 x5 x6 cm hb8 H7
    obtain ⟨b0, b1, bf⟩ := two_cellsD H8.out.1.2.2.1
    cases mb
    · obtain ⟨hSf, hSe, hT0, hX0, hFz⟩ := HA.out.2.1 hE0.out HMB.out
      have cf := rfail s1 3 w8
      rw [← hSf] at cf
      have HFz := Lib.hid (And.intro hT0 (And.intro hX0 hFz))
      have u2 : (S.e != 0) = true := by simpa using hSe
      unfold rC at cf
      clear hSf hFz hT0 hX0 hSe
      go_wp2_with fail
      refine Calls.mono cf ?_
      rintro ev w9' ⟨rfl, hb9⟩
      have H9' := H8.out.1.below hb9
      clear b0 b1 bf cf hb9
      obtain ⟨b0, b1, bf⟩ := two_cellsD H9'.2.2.1
      have s1' : (w9'.setCell ⟨Nq, 0, none⟩ (.string ⟨S.s.toArray⟩)).heap[Nq]? = some (.cells #[.string ⟨S.s.toArray⟩, .int .i64 s1.e] 35) := heap_set_self H9'.2.2.1 0 _
      have s2 : ((w9'.setCell ⟨Nq, 0, none⟩ (.string ⟨S.s.toArray⟩)).setCell ⟨Nq, 1, none⟩ (.int .i64 S.e)).heap[Nq]? = some (.cells #[.string ⟨S.s.toArray⟩, .int .i64 S.e] 35) := heap_set_self s1' 1 _
      have sO : Only (Nq) w9' ((w9'.setCell ⟨Nq, 0, none⟩ (.string ⟨S.s.toArray⟩)).setCell ⟨Nq, 1, none⟩ (.int .i64 S.e)) := ((Only.refl _ _).set 0 _).set 1 _
      have H9 := Lib.hid (H9'.over sO s2)
      clear H9' s1' s2 sO
      go_upto_region 6 with fail
      clear b0 b1 bf
      generalize ((w9'.setCell ⟨Nq, 0, none⟩ (.string ⟨S.s.toArray⟩)).setCell ⟨Nq, 1, none⟩ (.int .i64 S.e)) = w9 at *
      obtain ⟨b0, b1, bf⟩ := two_cellsD H9.out.2.2.1
      have z0 := cell_atD H9.out.1 0 (v := .string ⟨#[]⟩) rfl
      have z1 := cell_atD H9.out.1 1 (v := .int .i64 0) rfl
      have zf : ∀ j, w9.frozen? ⟨w.heap.size + 1, j, none⟩ = false := fun j => by simp [World.frozen?, H9.out.1]
      have x0 := cell_atD H9.out.2.1 0 (v := .int .i64 0) rfl
      have x1 := cell_atD H9.out.2.1 1 (v := .int .i64 0) rfl
      have x2 := cell_atD H9.out.2.1 2 (v := .int .i64 0) rfl
      have x3 := cell_atD H9.out.2.1 3 (v := .int .i64 0) rfl
      have x4 := cell_atD H9.out.2.1 4 (v := .int .i64 0) rfl
      have x5 := cell_atD H9.out.2.1 5 (v := .slice none 0 0) rfl
      have x6 := cell_atD H9.out.2.1 6 (v := .slice none 0 0) rfl
      have xf : ∀ j, w9.frozen? ⟨w.heap.size + 2, j, none⟩ = false := fun j => by simp [World.frozen?, H9.out.2.1]
      have A1 : (w9.setCell ⟨w.heap.size + 1, 0, none⟩ (.string ⟨S.s.toArray⟩)).heap[w.heap.size + 1]? = some (.cells #[.string ⟨S.s.toArray⟩, .int .i64 0] 35) := heap_set_self H9.out.1 0 _
      have A2 : ((w9.setCell ⟨w.heap.size + 1, 0, none⟩ (.string ⟨S.s.toArray⟩)).setCell ⟨w.heap.size + 1, 1, none⟩ (.int .i64 S.e)).heap[w.heap.size + 1]? = some (.cells #[.string ⟨S.s.toArray⟩, .int .i64 S.e] 35) := heap_set_self A1 1 _
      have AO : Only (w.heap.size + 1) w9 ((w9.setCell ⟨w.heap.size + 1, 0, none⟩ (.string ⟨S.s.toArray⟩)).setCell ⟨w.heap.size + 1, 1, none⟩ (.int .i64 S.e)) := ((Only.refl _ _).set 0 _).set 1 _
      have hC1 := (AO.block _ (lt_heap H9.out.2.1) (by omega)).trans H9.out.2.1
      have g1 : (((w9.setCell ⟨w.heap.size + 1, 0, none⟩ (.string ⟨S.s.toArray⟩)).setCell ⟨w.heap.size + 1, 1, none⟩ (.int .i64 S.e)).setCell ⟨w.heap.size + 2, 0, none⟩ (.int .i64 0)).heap[w.heap.size + 2]? = some (.cells #[.int .i64 0, .int .i64 0, .int .i64 0, .int .i64 0, .int .i64 0, .slice none 0 0, .slice none 0 0] 52) := heap_set_self hC1 0 _
      have g2 : ((((w9.setCell ⟨w.heap.size + 1, 0, none⟩ (.string ⟨S.s.toArray⟩)).setCell ⟨w.heap.size + 1, 1, none⟩ (.int .i64 S.e)).setCell ⟨w.heap.size + 2, 0, none⟩ (.int .i64 0)).setCell ⟨w.heap.size + 2, 1, none⟩ (.int .i64 0)).heap[w.heap.size + 2]? = some (.cells #[.int .i64 0, .int .i64 0, .int .i64 0, .int .i64 0, .int .i64 0, .slice none 0 0, .slice none 0 0] 52) := heap_set_self g1 1 _
      have g3 : (((((w9.setCell ⟨w.heap.size + 1, 0, none⟩ (.string ⟨S.s.toArray⟩)).setCell ⟨w.heap.size + 1, 1, none⟩ (.int .i64 S.e)).setCell ⟨w.heap.size + 2, 0, none⟩ (.int .i64 0)).setCell ⟨w.heap.size + 2, 1, none⟩ (.int .i64 0)).setCell ⟨w.heap.size + 2, 2, none⟩ (.int .i64 0)).heap[w.heap.size + 2]? = some (.cells #[.int .i64 0, .int .i64 0, .int .i64 0, .int .i64 0, .int .i64 0, .slice none 0 0, .slice none 0 0] 52) := heap_set_self g2 2 _
      have g4 : ((((((w9.setCell ⟨w.heap.size + 1, 0, none⟩ (.string ⟨S.s.toArray⟩)).setCell ⟨w.heap.size + 1, 1, none⟩ (.int .i64 S.e)).setCell ⟨w.heap.size + 2, 0, none⟩ (.int .i64 0)).setCell ⟨w.heap.size + 2, 1, none⟩ (.int .i64 0)).setCell ⟨w.heap.size + 2, 2, none⟩ (.int .i64 0)).setCell ⟨w.heap.size + 2, 3, none⟩ (.int .i64 0)).heap[w.heap.size + 2]? = some (.cells #[.int .i64 0, .int .i64 0, .int .i64 0, .int .i64 0, .int .i64 0, .slice none 0 0, .slice none 0 0] 52) := heap_set_self g3 3 _
      have g5 : (((((((w9.setCell ⟨w.heap.size + 1, 0, none⟩ (.string ⟨S.s.toArray⟩)).setCell ⟨w.heap.size + 1, 1, none⟩ (.int .i64 S.e)).setCell ⟨w.heap.size + 2, 0, none⟩ (.int .i64 0)).setCell ⟨w.heap.size + 2, 1, none⟩ (.int .i64 0)).setCell ⟨w.heap.size + 2, 2, none⟩ (.int .i64 0)).setCell ⟨w.heap.size + 2, 3, none⟩ (.int .i64 0)).setCell ⟨w.heap.size + 2, 4, none⟩ (.int .i64 0)).heap[w.heap.size + 2]? = some (.cells #[.int .i64 0, .int .i64 0, .int .i64 0, .int .i64 0, .int .i64 0, .slice none 0 0, .slice none 0 0] 52) := heap_set_self g4 4 _
      have g6 : ((((((((w9.setCell ⟨w.heap.size + 1, 0, none⟩ (.string ⟨S.s.toArray⟩)).setCell ⟨w.heap.size + 1, 1, none⟩ (.int .i64 S.e)).setCell ⟨w.heap.size + 2, 0, none⟩ (.int .i64 0)).setCell ⟨w.heap.size + 2, 1, none⟩ (.int .i64 0)).setCell ⟨w.heap.size + 2, 2, none⟩ (.int .i64 0)).setCell ⟨w.heap.size + 2, 3, none⟩ (.int .i64 0)).setCell ⟨w.heap.size + 2, 4, none⟩ (.int .i64 0)).setCell ⟨w.heap.size + 2, 5, none⟩ (.slice none 0 0)).heap[w.heap.size + 2]? = some (.cells #[.int .i64 0, .int .i64 0, .int .i64 0, .int .i64 0, .int .i64 0, .slice none 0 0, .slice none 0 0] 52) := heap_set_self g5 5 _
      have g7 : (((((((((w9.setCell ⟨w.heap.size + 1, 0, none⟩ (.string ⟨S.s.toArray⟩)).setCell ⟨w.heap.size + 1, 1, none⟩ (.int .i64 S.e)).setCell ⟨w.heap.size + 2, 0, none⟩ (.int .i64 0)).setCell ⟨w.heap.size + 2, 1, none⟩ (.int .i64 0)).setCell ⟨w.heap.size + 2, 2, none⟩ (.int .i64 0)).setCell ⟨w.heap.size + 2, 3, none⟩ (.int .i64 0)).setCell ⟨w.heap.size + 2, 4, none⟩ (.int .i64 0)).setCell ⟨w.heap.size + 2, 5, none⟩ (.slice none 0 0)).setCell ⟨w.heap.size + 2, 6, none⟩ (.slice none 0 0)).heap[w.heap.size + 2]? = some (.cells #[.int .i64 0, .int .i64 0, .int .i64 0, .int .i64 0, .int .i64 0, .slice none 0 0, .slice none 0 0] 52) := heap_set_self g6 6 _
      have gO : Only (w.heap.size + 2) ((w9.setCell ⟨w.heap.size + 1, 0, none⟩ (.string ⟨S.s.toArray⟩)).setCell ⟨w.heap.size + 1, 1, none⟩ (.int .i64 S.e)) (((((((((w9.setCell ⟨w.heap.size + 1, 0, none⟩ (.string ⟨S.s.toArray⟩)).setCell ⟨w.heap.size + 1, 1, none⟩ (.int .i64 S.e)).setCell ⟨w.heap.size + 2, 0, none⟩ (.int .i64 0)).setCell ⟨w.heap.size + 2, 1, none⟩ (.int .i64 0)).setCell ⟨w.heap.size + 2, 2, none⟩ (.int .i64 0)).setCell ⟨w.heap.size + 2, 3, none⟩ (.int .i64 0)).setCell ⟨w.heap.size + 2, 4, none⟩ (.int .i64 0)).setCell ⟨w.heap.size + 2, 5, none⟩ (.slice none 0 0)).setCell ⟨w.heap.size + 2, 6, none⟩ (.slice none 0 0)) := (((((((Only.refl _ _).set 0 _).set 1 _).set 2 _).set 3 _).set 4 _).set 5 _).set 6 _
      have GI := Lib.hid (And.intro ((gO.block _ (lt_heap A2) (by omega)).trans A2) g7)
      have GO := Lib.hid (And.intro AO gO)
      clear A1 A2 AO hC1 g1 g2 g3 g4 g5 g6 g7 gO
      go_wp2_with fail
      generalize (((((((((w9.setCell ⟨w.heap.size + 1, 0, none⟩ (.string ⟨S.s.toArray⟩)).setCell ⟨w.heap.size + 1, 1, none⟩ (.int .i64 S.e)).setCell ⟨w.heap.size + 2, 0, none⟩ (.int .i64 0)).setCell ⟨w.heap.size + 2, 1, none⟩ (.int .i64 0)).setCell ⟨w.heap.size + 2, 2, none⟩ (.int .i64 0)).setCell ⟨w.heap.size + 2, 3, none⟩ (.int .i64 0)).setCell ⟨w.heap.size + 2, 4, none⟩ (.int .i64 0)).setCell ⟨w.heap.size + 2, 5, none⟩ (.slice none 0 0)).setCell ⟨w.heap.size + 2, 6, none⟩ (.slice none 0 0)) = wf at *
      generalize ((w9.setCell ⟨w.heap.size + 1, 0, none⟩ (.string ⟨S.s.toArray⟩)).setCell ⟨w.heap.size + 1, 1, none⟩ (.int .i64 S.e)) = wm at *
      obtain ⟨fi, fj⟩ := GI.out
      have y0 := cell_atD fi 0 (v := .string ⟨S.s.toArray⟩) rfl
      have y1 := cell_atD fi 1 (v := .int .i64 S.e) rfl
      have t0 := cell_atD fj 0 (v := .int .i64 0) rfl
      have t1 := cell_atD fj 1 (v := .int .i64 0) rfl
      have t2 := cell_atD fj 2 (v := .int .i64 0) rfl
      have t3 := cell_atD fj 3 (v := .int .i64 0) rfl
      have t4 := cell_atD fj 4 (v := .int .i64 0) rfl
      have t5 := cell_atD fj 5 (v := .slice none 0 0) rfl
      have t6 := cell_atD fj 6 (v := .slice none 0 0) rfl
      clear fi fj
      refine bodyPost_ret (v := .tuple #[.agg #[.string ⟨S.s.toArray⟩, .int .i64 S.e], .agg #[.int .i64 0, .int .i64 0, .int .i64 0, .int .i64 0, .int .i64 0, .slice none 0 0, .slice none 0 0]]) (by simp [results, Try.results28, go_sem, y0, y1, t0, t1, t2, t3, t4, t5, t6]) rfl ?_
      refine ⟨none, 0, none, 0, by rw [HFz.out.1, HFz.out.2.1, HFz.out.2.2]; rfl, by rw [HFz.out.2.2]; exact ⟨World.ownsRow_nil _ _ _ _, World.ownsRow_nil _ _ _ _⟩, (H9.out.2.2.2.1.trans (GO.out.1.below (by omega) H9.out.2.2.2.1.size)).trans (GO.out.2.below (by omega) (Nat.le_trans H9.out.2.2.2.1.size GO.out.1.size))⟩
    · obtain ⟨hSf, hT0, hX0, hFz⟩ := HA.out.2.2 hE0.out HMB.out
      subst hSf hFz hT0 hX0
      have u2 : (S.e != 0) = false := by simpa using hE0.out
      have z0 := cell_atD H8.out.1.1 0 (v := .string ⟨#[]⟩) rfl
      have z1 := cell_atD H8.out.1.1 1 (v := .int .i64 0) rfl
      have zf : ∀ j, w8.frozen? ⟨w.heap.size + 1, j, none⟩ = false := fun j => by simp [World.frozen?, H8.out.1.1]
      have x0 := cell_atD H8.out.1.2.1 0 (v := .int .i64 0) rfl
      have x1 := cell_atD H8.out.1.2.1 1 (v := .int .i64 0) rfl
      have x2 := cell_atD H8.out.1.2.1 2 (v := .int .i64 0) rfl
      have x3 := cell_atD H8.out.1.2.1 3 (v := .int .i64 0) rfl
      have x4 := cell_atD H8.out.1.2.1 4 (v := .int .i64 0) rfl
      have x5 := cell_atD H8.out.1.2.1 5 (v := .slice none 0 0) rfl
      have x6 := cell_atD H8.out.1.2.1 6 (v := .slice none 0 0) rfl
      have xf : ∀ j, w8.frozen? ⟨w.heap.size + 2, j, none⟩ = false := fun j => by simp [World.frozen?, H8.out.1.2.1]
      have d0 := cell_atD H8.out.2.2.1 0 (v := .int .i64 FT) rfl
      have d1 := cell_atD H8.out.2.2.1 1 (v := .int .i64 FX) rfl
      have d2 := cell_atD H8.out.2.2.1 2 (v := .int .i64 F.e) rfl
      have d3 := cell_atD H8.out.2.2.1 3 (v := .int .i64 F.b) rfl
      have d4 := cell_atD H8.out.2.2.1 4 (v := .int .i64 F.k) rfl
      have d5 := cell_atD H8.out.2.2.1 5 (v := .slice a2 F.M.length p2) rfl
      have d6 := cell_atD H8.out.2.2.1 6 (v := .slice a3 F.C.length p3) rfl
      have hq3 := H8.out.1.2.2.2.2
      have hqx := H8.out.2.1
      have n1 : Nq ≠ w.heap.size + 1 := by omega
      have n2 : Nq ≠ w.heap.size + 2 := by omega
      have n3 : Nx ≠ w.heap.size + 1 := by omega
      have n4 : Nx ≠ w.heap.size + 2 := by omega
      have m1 := n1.symm
      have m2 := n2.symm
      have m3 := n3.symm
      have m4 := n4.symm
      have A1 : (w8.setCell ⟨w.heap.size + 1, 0, none⟩ (.string ⟨S.s.toArray⟩)).heap[w.heap.size + 1]? = some (.cells #[.string ⟨S.s.toArray⟩, .int .i64 0] 35) := heap_set_self H8.out.1.1 0 _
      have A2 : ((w8.setCell ⟨w.heap.size + 1, 0, none⟩ (.string ⟨S.s.toArray⟩)).setCell ⟨w.heap.size + 1, 1, none⟩ (.int .i64 S.e)).heap[w.heap.size + 1]? = some (.cells #[.string ⟨S.s.toArray⟩, .int .i64 S.e] 35) := heap_set_self A1 1 _
      have AO : Only (w.heap.size + 1) w8 ((w8.setCell ⟨w.heap.size + 1, 0, none⟩ (.string ⟨S.s.toArray⟩)).setCell ⟨w.heap.size + 1, 1, none⟩ (.int .i64 S.e)) := ((Only.refl _ _).set 0 _).set 1 _
      have hC1 := (AO.block _ (lt_heap H8.out.1.2.1) (by omega)).trans H8.out.1.2.1
      have g1 : (((w8.setCell ⟨w.heap.size + 1, 0, none⟩ (.string ⟨S.s.toArray⟩)).setCell ⟨w.heap.size + 1, 1, none⟩ (.int .i64 S.e)).setCell ⟨w.heap.size + 2, 0, none⟩ (.int .i64 FT)).heap[w.heap.size + 2]? = some (.cells #[.int .i64 FT, .int .i64 0, .int .i64 0, .int .i64 0, .int .i64 0, .slice none 0 0, .slice none 0 0] 52) := heap_set_self hC1 0 _
      have g2 : ((((w8.setCell ⟨w.heap.size + 1, 0, none⟩ (.string ⟨S.s.toArray⟩)).setCell ⟨w.heap.size + 1, 1, none⟩ (.int .i64 S.e)).setCell ⟨w.heap.size + 2, 0, none⟩ (.int .i64 FT)).setCell ⟨w.heap.size + 2, 1, none⟩ (.int .i64 FX)).heap[w.heap.size + 2]? = some (.cells #[.int .i64 FT, .int .i64 FX, .int .i64 0, .int .i64 0, .int .i64 0, .slice none 0 0, .slice none 0 0] 52) := heap_set_self g1 1 _
      have g3 : (((((w8.setCell ⟨w.heap.size + 1, 0, none⟩ (.string ⟨S.s.toArray⟩)).setCell ⟨w.heap.size + 1, 1, none⟩ (.int .i64 S.e)).setCell ⟨w.heap.size + 2, 0, none⟩ (.int .i64 FT)).setCell ⟨w.heap.size + 2, 1, none⟩ (.int .i64 FX)).setCell ⟨w.heap.size + 2, 2, none⟩ (.int .i64 F.e)).heap[w.heap.size + 2]? = some (.cells #[.int .i64 FT, .int .i64 FX, .int .i64 F.e, .int .i64 0, .int .i64 0, .slice none 0 0, .slice none 0 0] 52) := heap_set_self g2 2 _
      have g4 : ((((((w8.setCell ⟨w.heap.size + 1, 0, none⟩ (.string ⟨S.s.toArray⟩)).setCell ⟨w.heap.size + 1, 1, none⟩ (.int .i64 S.e)).setCell ⟨w.heap.size + 2, 0, none⟩ (.int .i64 FT)).setCell ⟨w.heap.size + 2, 1, none⟩ (.int .i64 FX)).setCell ⟨w.heap.size + 2, 2, none⟩ (.int .i64 F.e)).setCell ⟨w.heap.size + 2, 3, none⟩ (.int .i64 F.b)).heap[w.heap.size + 2]? = some (.cells #[.int .i64 FT, .int .i64 FX, .int .i64 F.e, .int .i64 F.b, .int .i64 0, .slice none 0 0, .slice none 0 0] 52) := heap_set_self g3 3 _
      have g5 : (((((((w8.setCell ⟨w.heap.size + 1, 0, none⟩ (.string ⟨S.s.toArray⟩)).setCell ⟨w.heap.size + 1, 1, none⟩ (.int .i64 S.e)).setCell ⟨w.heap.size + 2, 0, none⟩ (.int .i64 FT)).setCell ⟨w.heap.size + 2, 1, none⟩ (.int .i64 FX)).setCell ⟨w.heap.size + 2, 2, none⟩ (.int .i64 F.e)).setCell ⟨w.heap.size + 2, 3, none⟩ (.int .i64 F.b)).setCell ⟨w.heap.size + 2, 4, none⟩ (.int .i64 F.k)).heap[w.heap.size + 2]? = some (.cells #[.int .i64 FT, .int .i64 FX, .int .i64 F.e, .int .i64 F.b, .int .i64 F.k, .slice none 0 0, .slice none 0 0] 52) := heap_set_self g4 4 _
      have g6 : ((((((((w8.setCell ⟨w.heap.size + 1, 0, none⟩ (.string ⟨S.s.toArray⟩)).setCell ⟨w.heap.size + 1, 1, none⟩ (.int .i64 S.e)).setCell ⟨w.heap.size + 2, 0, none⟩ (.int .i64 FT)).setCell ⟨w.heap.size + 2, 1, none⟩ (.int .i64 FX)).setCell ⟨w.heap.size + 2, 2, none⟩ (.int .i64 F.e)).setCell ⟨w.heap.size + 2, 3, none⟩ (.int .i64 F.b)).setCell ⟨w.heap.size + 2, 4, none⟩ (.int .i64 F.k)).setCell ⟨w.heap.size + 2, 5, none⟩ (.slice a2 F.M.length p2)).heap[w.heap.size + 2]? = some (.cells #[.int .i64 FT, .int .i64 FX, .int .i64 F.e, .int .i64 F.b, .int .i64 F.k, .slice a2 F.M.length p2, .slice none 0 0] 52) := heap_set_self g5 5 _
      have g7 : (((((((((w8.setCell ⟨w.heap.size + 1, 0, none⟩ (.string ⟨S.s.toArray⟩)).setCell ⟨w.heap.size + 1, 1, none⟩ (.int .i64 S.e)).setCell ⟨w.heap.size + 2, 0, none⟩ (.int .i64 FT)).setCell ⟨w.heap.size + 2, 1, none⟩ (.int .i64 FX)).setCell ⟨w.heap.size + 2, 2, none⟩ (.int .i64 F.e)).setCell ⟨w.heap.size + 2, 3, none⟩ (.int .i64 F.b)).setCell ⟨w.heap.size + 2, 4, none⟩ (.int .i64 F.k)).setCell ⟨w.heap.size + 2, 5, none⟩ (.slice a2 F.M.length p2)).setCell ⟨w.heap.size + 2, 6, none⟩ (.slice a3 F.C.length p3)).heap[w.heap.size + 2]? = some (.cells #[.int .i64 FT, .int .i64 FX, .int .i64 F.e, .int .i64 F.b, .int .i64 F.k, .slice a2 F.M.length p2, .slice a3 F.C.length p3] 52) := heap_set_self g6 6 _
      have gO : Only (w.heap.size + 2) ((w8.setCell ⟨w.heap.size + 1, 0, none⟩ (.string ⟨S.s.toArray⟩)).setCell ⟨w.heap.size + 1, 1, none⟩ (.int .i64 S.e)) (((((((((w8.setCell ⟨w.heap.size + 1, 0, none⟩ (.string ⟨S.s.toArray⟩)).setCell ⟨w.heap.size + 1, 1, none⟩ (.int .i64 S.e)).setCell ⟨w.heap.size + 2, 0, none⟩ (.int .i64 FT)).setCell ⟨w.heap.size + 2, 1, none⟩ (.int .i64 FX)).setCell ⟨w.heap.size + 2, 2, none⟩ (.int .i64 F.e)).setCell ⟨w.heap.size + 2, 3, none⟩ (.int .i64 F.b)).setCell ⟨w.heap.size + 2, 4, none⟩ (.int .i64 F.k)).setCell ⟨w.heap.size + 2, 5, none⟩ (.slice a2 F.M.length p2)).setCell ⟨w.heap.size + 2, 6, none⟩ (.slice a3 F.C.length p3)) := (((((((Only.refl _ _).set 0 _).set 1 _).set 2 _).set 3 _).set 4 _).set 5 _).set 6 _
      have GI := Lib.hid (And.intro ((gO.block _ (lt_heap A2) (by omega)).trans A2) g7)
      have GO := Lib.hid (And.intro AO gO)
      clear A1 A2 AO hC1 g1 g2 g3 g4 g5 g6 g7 gO
      have A1 : (w8.setCell ⟨w.heap.size + 1, 0, none⟩ (.string ⟨S.s.toArray⟩)).heap[w.heap.size + 1]? = some (.cells #[.string ⟨S.s.toArray⟩, .int .i64 0] 35) := heap_set_self H8.out.1.1 0 _
      have A2 : ((w8.setCell ⟨w.heap.size + 1, 0, none⟩ (.string ⟨S.s.toArray⟩)).setCell ⟨w.heap.size + 1, 1, none⟩ (.int .i64 S.e)).heap[w.heap.size + 1]? = some (.cells #[.string ⟨S.s.toArray⟩, .int .i64 S.e] 35) := heap_set_self A1 1 _
      have AO : Only (w.heap.size + 1) w8 ((w8.setCell ⟨w.heap.size + 1, 0, none⟩ (.string ⟨S.s.toArray⟩)).setCell ⟨w.heap.size + 1, 1, none⟩ (.int .i64 S.e)) := ((Only.refl _ _).set 0 _).set 1 _
      have C1 : (w8.setCell ⟨w.heap.size + 2, 0, none⟩ (.int .i64 FT)).heap[w.heap.size + 2]? = some (.cells #[.int .i64 FT, .int .i64 0, .int .i64 0, .int .i64 0, .int .i64 0, .slice none 0 0, .slice none 0 0] 52) := heap_set_self H8.out.1.2.1 0 _
      have C2 : ((w8.setCell ⟨w.heap.size + 2, 0, none⟩ (.int .i64 FT)).setCell ⟨w.heap.size + 2, 1, none⟩ (.int .i64 FX)).heap[w.heap.size + 2]? = some (.cells #[.int .i64 FT, .int .i64 FX, .int .i64 0, .int .i64 0, .int .i64 0, .slice none 0 0, .slice none 0 0] 52) := heap_set_self C1 1 _
      have C3 : (((w8.setCell ⟨w.heap.size + 2, 0, none⟩ (.int .i64 FT)).setCell ⟨w.heap.size + 2, 1, none⟩ (.int .i64 FX)).setCell ⟨w.heap.size + 2, 2, none⟩ (.int .i64 F.e)).heap[w.heap.size + 2]? = some (.cells #[.int .i64 FT, .int .i64 FX, .int .i64 F.e, .int .i64 0, .int .i64 0, .slice none 0 0, .slice none 0 0] 52) := heap_set_self C2 2 _
      have C4 : ((((w8.setCell ⟨w.heap.size + 2, 0, none⟩ (.int .i64 FT)).setCell ⟨w.heap.size + 2, 1, none⟩ (.int .i64 FX)).setCell ⟨w.heap.size + 2, 2, none⟩ (.int .i64 F.e)).setCell ⟨w.heap.size + 2, 3, none⟩ (.int .i64 F.b)).heap[w.heap.size + 2]? = some (.cells #[.int .i64 FT, .int .i64 FX, .int .i64 F.e, .int .i64 F.b, .int .i64 0, .slice none 0 0, .slice none 0 0] 52) := heap_set_self C3 3 _
      have C5 : (((((w8.setCell ⟨w.heap.size + 2, 0, none⟩ (.int .i64 FT)).setCell ⟨w.heap.size + 2, 1, none⟩ (.int .i64 FX)).setCell ⟨w.heap.size + 2, 2, none⟩ (.int .i64 F.e)).setCell ⟨w.heap.size + 2, 3, none⟩ (.int .i64 F.b)).setCell ⟨w.heap.size + 2, 4, none⟩ (.int .i64 F.k)).heap[w.heap.size + 2]? = some (.cells #[.int .i64 FT, .int .i64 FX, .int .i64 F.e, .int .i64 F.b, .int .i64 F.k, .slice none 0 0, .slice none 0 0] 52) := heap_set_self C4 4 _
      have C6 : ((((((w8.setCell ⟨w.heap.size + 2, 0, none⟩ (.int .i64 FT)).setCell ⟨w.heap.size + 2, 1, none⟩ (.int .i64 FX)).setCell ⟨w.heap.size + 2, 2, none⟩ (.int .i64 F.e)).setCell ⟨w.heap.size + 2, 3, none⟩ (.int .i64 F.b)).setCell ⟨w.heap.size + 2, 4, none⟩ (.int .i64 F.k)).setCell ⟨w.heap.size + 2, 5, none⟩ (.slice a2 F.M.length p2)).heap[w.heap.size + 2]? = some (.cells #[.int .i64 FT, .int .i64 FX, .int .i64 F.e, .int .i64 F.b, .int .i64 F.k, .slice a2 F.M.length p2, .slice none 0 0] 52) := heap_set_self C5 5 _
      have C7 : (((((((w8.setCell ⟨w.heap.size + 2, 0, none⟩ (.int .i64 FT)).setCell ⟨w.heap.size + 2, 1, none⟩ (.int .i64 FX)).setCell ⟨w.heap.size + 2, 2, none⟩ (.int .i64 F.e)).setCell ⟨w.heap.size + 2, 3, none⟩ (.int .i64 F.b)).setCell ⟨w.heap.size + 2, 4, none⟩ (.int .i64 F.k)).setCell ⟨w.heap.size + 2, 5, none⟩ (.slice a2 F.M.length p2)).setCell ⟨w.heap.size + 2, 6, none⟩ (.slice a3 F.C.length p3)).heap[w.heap.size + 2]? = some (.cells #[.int .i64 FT, .int .i64 FX, .int .i64 F.e, .int .i64 F.b, .int .i64 F.k, .slice a2 F.M.length p2, .slice a3 F.C.length p3] 52) := heap_set_self C6 6 _
      have CO : Only (w.heap.size + 2) w8 (((((((w8.setCell ⟨w.heap.size + 2, 0, none⟩ (.int .i64 FT)).setCell ⟨w.heap.size + 2, 1, none⟩ (.int .i64 FX)).setCell ⟨w.heap.size + 2, 2, none⟩ (.int .i64 F.e)).setCell ⟨w.heap.size + 2, 3, none⟩ (.int .i64 F.b)).setCell ⟨w.heap.size + 2, 4, none⟩ (.int .i64 F.k)).setCell ⟨w.heap.size + 2, 5, none⟩ (.slice a2 F.M.length p2)).setCell ⟨w.heap.size + 2, 6, none⟩ (.slice a3 F.C.length p3)) := (((((((Only.refl _ _).set 0 _).set 1 _).set 2 _).set 3 _).set 4 _).set 5 _).set 6 _
      have pAx := (AO.block Nx (lt_heap H8.out.2.2.1) (by omega)).trans H8.out.2.2.1
      have ax0 := cell_atD pAx 0 (v := .int .i64 FT) rfl
      have ax1 := cell_atD pAx 1 (v := .int .i64 FX) rfl
      have ax2 := cell_atD pAx 2 (v := .int .i64 F.e) rfl
      have ax3 := cell_atD pAx 3 (v := .int .i64 F.b) rfl
      have ax4 := cell_atD pAx 4 (v := .int .i64 F.k) rfl
      have ax5 := cell_atD pAx 5 (v := .slice a2 F.M.length p2) rfl
      have ax6 := cell_atD pAx 6 (v := .slice a3 F.C.length p3) rfl
      have pAc := (AO.block (w.heap.size + 2) (lt_heap H8.out.1.2.1) (by omega)).trans H8.out.1.2.1
      have ac0 := cell_atD pAc 0 (v := .int .i64 0) rfl
      have ac1 := cell_atD pAc 1 (v := .int .i64 0) rfl
      have ac2 := cell_atD pAc 2 (v := .int .i64 0) rfl
      have ac3 := cell_atD pAc 3 (v := .int .i64 0) rfl
      have ac4 := cell_atD pAc 4 (v := .int .i64 0) rfl
      have ac5 := cell_atD pAc 5 (v := .slice none 0 0) rfl
      have ac6 := cell_atD pAc 6 (v := .slice none 0 0) rfl
      have acf : ∀ j, ((w8.setCell ⟨w.heap.size + 1, 0, none⟩ (.string ⟨S.s.toArray⟩)).setCell ⟨w.heap.size + 1, 1, none⟩ (.int .i64 S.e)).frozen? ⟨w.heap.size + 2, j, none⟩ = false := fun j => by simp [World.frozen?, pAc]
      have pCq := (CO.block Nq (lt_heap H8.out.1.2.2.1) (by omega)).trans H8.out.1.2.2.1
      have cq0 := cell_atD pCq 0 (v := .string ⟨S.s.toArray⟩) rfl
      have cq1 := cell_atD pCq 1 (v := .int .i64 S.e) rfl
      have pCr := (CO.block (w.heap.size + 1) (lt_heap H8.out.1.1) (by omega)).trans H8.out.1.1
      have cr0 := cell_atD pCr 0 (v := .string ⟨#[]⟩) rfl
      have cr1 := cell_atD pCr 1 (v := .int .i64 0) rfl
      have crf : ∀ j, (((((((w8.setCell ⟨w.heap.size + 2, 0, none⟩ (.int .i64 FT)).setCell ⟨w.heap.size + 2, 1, none⟩ (.int .i64 FX)).setCell ⟨w.heap.size + 2, 2, none⟩ (.int .i64 F.e)).setCell ⟨w.heap.size + 2, 3, none⟩ (.int .i64 F.b)).setCell ⟨w.heap.size + 2, 4, none⟩ (.int .i64 F.k)).setCell ⟨w.heap.size + 2, 5, none⟩ (.slice a2 F.M.length p2)).setCell ⟨w.heap.size + 2, 6, none⟩ (.slice a3 F.C.length p3)).frozen? ⟨w.heap.size + 1, j, none⟩ = false := fun j => by simp [World.frozen?, pCr]
      clear A1 A2 AO pAx pAc pCq pCr CO C1 C2 C3 C4 C5 C6 C7
      have HFIN := Lib.hid (show (((((((((w8.setCell ⟨w.heap.size + 1, 0, none⟩ (.string ⟨S.s.toArray⟩)).setCell ⟨w.heap.size + 1, 1, none⟩ (.int .i64 S.e)).setCell ⟨w.heap.size + 2, 0, none⟩ (.int .i64 FT)).setCell ⟨w.heap.size + 2, 1, none⟩ (.int .i64 FX)).setCell ⟨w.heap.size + 2, 2, none⟩ (.int .i64 F.e)).setCell ⟨w.heap.size + 2, 3, none⟩ (.int .i64 F.b)).setCell ⟨w.heap.size + 2, 4, none⟩ (.int .i64 F.k)).setCell ⟨w.heap.size + 2, 5, none⟩ (.slice a2 F.M.length p2)).setCell ⟨w.heap.size + 2, 6, none⟩ (.slice a3 F.C.length p3)).drew.heap[w.heap.size + 1]? = some (.cells #[.string ⟨S.s.toArray⟩, .int .i64 S.e] 35) ∧ (((((((((w8.setCell ⟨w.heap.size + 1, 0, none⟩ (.string ⟨S.s.toArray⟩)).setCell ⟨w.heap.size + 1, 1, none⟩ (.int .i64 S.e)).setCell ⟨w.heap.size + 2, 0, none⟩ (.int .i64 FT)).setCell ⟨w.heap.size + 2, 1, none⟩ (.int .i64 FX)).setCell ⟨w.heap.size + 2, 2, none⟩ (.int .i64 F.e)).setCell ⟨w.heap.size + 2, 3, none⟩ (.int .i64 F.b)).setCell ⟨w.heap.size + 2, 4, none⟩ (.int .i64 F.k)).setCell ⟨w.heap.size + 2, 5, none⟩ (.slice a2 F.M.length p2)).setCell ⟨w.heap.size + 2, 6, none⟩ (.slice a3 F.C.length p3)).drew.heap[w.heap.size + 2]? = some (.cells #[.int .i64 FT, .int .i64 FX, .int .i64 F.e, .int .i64 F.b, .int .i64 F.k, .slice a2 F.M.length p2, .slice a3 F.C.length p3] 52) ∧ CFO F w.heap.size (((((((((w8.setCell ⟨w.heap.size + 1, 0, none⟩ (.string ⟨S.s.toArray⟩)).setCell ⟨w.heap.size + 1, 1, none⟩ (.int .i64 S.e)).setCell ⟨w.heap.size + 2, 0, none⟩ (.int .i64 FT)).setCell ⟨w.heap.size + 2, 1, none⟩ (.int .i64 FX)).setCell ⟨w.heap.size + 2, 2, none⟩ (.int .i64 F.e)).setCell ⟨w.heap.size + 2, 3, none⟩ (.int .i64 F.b)).setCell ⟨w.heap.size + 2, 4, none⟩ (.int .i64 F.k)).setCell ⟨w.heap.size + 2, 5, none⟩ (.slice a2 F.M.length p2)).setCell ⟨w.heap.size + 2, 6, none⟩ (.slice a3 F.C.length p3)).drew (.slice a2 F.M.length p2) (.slice a3 F.C.length p3) ∧ Below w.heap.size w (((((((((w8.setCell ⟨w.heap.size + 1, 0, none⟩ (.string ⟨S.s.toArray⟩)).setCell ⟨w.heap.size + 1, 1, none⟩ (.int .i64 S.e)).setCell ⟨w.heap.size + 2, 0, none⟩ (.int .i64 FT)).setCell ⟨w.heap.size + 2, 1, none⟩ (.int .i64 FX)).setCell ⟨w.heap.size + 2, 2, none⟩ (.int .i64 F.e)).setCell ⟨w.heap.size + 2, 3, none⟩ (.int .i64 F.b)).setCell ⟨w.heap.size + 2, 4, none⟩ (.int .i64 F.k)).setCell ⟨w.heap.size + 2, 5, none⟩ (.slice a2 F.M.length p2)).setCell ⟨w.heap.size + 2, 6, none⟩ (.slice a3 F.C.length p3)).drew from
        drew_end GI.out.1 GI.out.2 (CFO.base (((H8.out.2.2.2).only GO.out.1 (by omega)).only GO.out.2 (by omega)) (by omega)) ((H8.out.1.2.2.2.1.trans (GO.out.1.below (by omega) H8.out.1.2.2.2.1.size)).trans (GO.out.2.below (by omega) (Nat.le_trans H8.out.1.2.2.2.1.size GO.out.1.size))))
      clear GI GO hq3 hqx
      go_upto_region 8 with fail
      go_region
      all_goals
        clear ax0 ax1 ax2 ax3 ax4 ax5 ax6 ac0 ac1 ac2 ac3 ac4 ac5 ac6 acf cq0 cq1 cr0 cr1 crf
        clear z0 z1 zf x0 x1 x2 x3 x4 x5 x6 xf d0 d1 d2 d3 d4 d5 d6 n1 n2 n3 n4 m1 m2 m3 m4 b0 b1 bf
        go_wp2_with fail
        generalize (((((((((w8.setCell ⟨w.heap.size + 1, 0, none⟩ (.string ⟨S.s.toArray⟩)).setCell ⟨w.heap.size + 1, 1, none⟩ (.int .i64 S.e)).setCell ⟨w.heap.size + 2, 0, none⟩ (.int .i64 FT)).setCell ⟨w.heap.size + 2, 1, none⟩ (.int .i64 FX)).setCell ⟨w.heap.size + 2, 2, none⟩ (.int .i64 F.e)).setCell ⟨w.heap.size + 2, 3, none⟩ (.int .i64 F.b)).setCell ⟨w.heap.size + 2, 4, none⟩ (.int .i64 F.k)).setCell ⟨w.heap.size + 2, 5, none⟩ (.slice a2 F.M.length p2)).setCell ⟨w.heap.size + 2, 6, none⟩ (.slice a3 F.C.length p3)).drew = wf at *
        obtain ⟨fi, fj, hL, hbf⟩ := HFIN.out
        have y0 := cell_atD fi 0 (v := .string ⟨S.s.toArray⟩) rfl
        have y1 := cell_atD fi 1 (v := .int .i64 S.e) rfl
        have t0 := cell_atD fj 0 (v := .int .i64 FT) rfl
        have t1 := cell_atD fj 1 (v := .int .i64 FX) rfl
        have t2 := cell_atD fj 2 (v := .int .i64 F.e) rfl
        have t3 := cell_atD fj 3 (v := .int .i64 F.b) rfl
        have t4 := cell_atD fj 4 (v := .int .i64 F.k) rfl
        have t5 := cell_atD fj 5 (v := .slice a2 F.M.length p2) rfl
        have t6 := cell_atD fj 6 (v := .slice a3 F.C.length p3) rfl
        clear fi fj
        refine bodyPost_ret (v := .tuple #[.agg #[.string ⟨S.s.toArray⟩, .int .i64 S.e], .agg #[.int .i64 FT, .int .i64 FX, .int .i64 F.e, .int .i64 F.b, .int .i64 F.k, .slice a2 F.M.length p2, .slice a3 F.C.length p3]]) (by simp [results, Try.results28, go_sem, y0, y1, t0, t1, t2, t3, t4, t5, t6]) rfl ?_
        exact ⟨a2, p2, a3, p3, rfl, hL, hbf⟩
  · have u1 : (s1.e == 0) = false := by simpa using hE
    have u2 : (s1.e != 0) = true := by simpa using hE
    obtain ⟨hSf, hT0, hX0, hFz⟩ := HA.out.1 hE
    have HFz := Lib.hid (And.intro hSf (And.intro hT0 (And.intro hX0 hFz)))
    clear hE hSf hFz hT0 hX0 x0 x1 x2 x3 x4 x5 x6
    have z0 := cell_atD H7.out.1.1 0 (v := .string ⟨#[]⟩) rfl
    have z1 := cell_atD H7.out.1.1 1 (v := .int .i64 0) rfl
    have zf : ∀ j, w7.frozen? ⟨w.heap.size + 1, j, none⟩ = false := fun j => by simp [World.frozen?, H7.out.1.1]
    have x0 := cell_atD H7.out.1.2.1 0 (v := .int .i64 0) rfl
    have x1 := cell_atD H7.out.1.2.1 1 (v := .int .i64 0) rfl
    have x2 := cell_atD H7.out.1.2.1 2 (v := .int .i64 0) rfl
    have x3 := cell_atD H7.out.1.2.1 3 (v := .int .i64 0) rfl
    have x4 := cell_atD H7.out.1.2.1 4 (v := .int .i64 0) rfl
    have x5 := cell_atD H7.out.1.2.1 5 (v := .slice none 0 0) rfl
    have x6 := cell_atD H7.out.1.2.1 6 (v := .slice none 0 0) rfl
    have xf : ∀ j, w7.frozen? ⟨w.heap.size + 2, j, none⟩ = false := fun j => by simp [World.frozen?, H7.out.1.2.1]
    have A1 : (w7.setCell ⟨w.heap.size + 1, 0, none⟩ (.string ⟨s1.s.toArray⟩)).heap[w.heap.size + 1]? = some (.cells #[.string ⟨s1.s.toArray⟩, .int .i64 0] 35) := heap_set_self H7.out.1.1 0 _
    have A2 : ((w7.setCell ⟨w.heap.size + 1, 0, none⟩ (.string ⟨s1.s.toArray⟩)).setCell ⟨w.heap.size + 1, 1, none⟩ (.int .i64 s1.e)).heap[w.heap.size + 1]? = some (.cells #[.string ⟨s1.s.toArray⟩, .int .i64 s1.e] 35) := heap_set_self A1 1 _
    have AO : Only (w.heap.size + 1) w7 ((w7.setCell ⟨w.heap.size + 1, 0, none⟩ (.string ⟨s1.s.toArray⟩)).setCell ⟨w.heap.size + 1, 1, none⟩ (.int .i64 s1.e)) := ((Only.refl _ _).set 0 _).set 1 _
    have hC1 := (AO.block _ (lt_heap H7.out.1.2.1) (by omega)).trans H7.out.1.2.1
    have g1 : (((w7.setCell ⟨w.heap.size + 1, 0, none⟩ (.string ⟨s1.s.toArray⟩)).setCell ⟨w.heap.size + 1, 1, none⟩ (.int .i64 s1.e)).setCell ⟨w.heap.size + 2, 0, none⟩ (.int .i64 0)).heap[w.heap.size + 2]? = some (.cells #[.int .i64 0, .int .i64 0, .int .i64 0, .int .i64 0, .int .i64 0, .slice none 0 0, .slice none 0 0] 52) := heap_set_self hC1 0 _
    have g2 : ((((w7.setCell ⟨w.heap.size + 1, 0, none⟩ (.string ⟨s1.s.toArray⟩)).setCell ⟨w.heap.size + 1, 1, none⟩ (.int .i64 s1.e)).setCell ⟨w.heap.size + 2, 0, none⟩ (.int .i64 0)).setCell ⟨w.heap.size + 2, 1, none⟩ (.int .i64 0)).heap[w.heap.size + 2]? = some (.cells #[.int .i64 0, .int .i64 0, .int .i64 0, .int .i64 0, .int .i64 0, .slice none 0 0, .slice none 0 0] 52) := heap_set_self g1 1 _
    have g3 : (((((w7.setCell ⟨w.heap.size + 1, 0, none⟩ (.string ⟨s1.s.toArray⟩)).setCell ⟨w.heap.size + 1, 1, none⟩ (.int .i64 s1.e)).setCell ⟨w.heap.size + 2, 0, none⟩ (.int .i64 0)).setCell ⟨w.heap.size + 2, 1, none⟩ (.int .i64 0)).setCell ⟨w.heap.size + 2, 2, none⟩ (.int .i64 0)).heap[w.heap.size + 2]? = some (.cells #[.int .i64 0, .int .i64 0, .int .i64 0, .int .i64 0, .int .i64 0, .slice none 0 0, .slice none 0 0] 52) := heap_set_self g2 2 _
    have g4 : ((((((w7.setCell ⟨w.heap.size + 1, 0, none⟩ (.string ⟨s1.s.toArray⟩)).setCell ⟨w.heap.size + 1, 1, none⟩ (.int .i64 s1.e)).setCell ⟨w.heap.size + 2, 0, none⟩ (.int .i64 0)).setCell ⟨w.heap.size + 2, 1, none⟩ (.int .i64 0)).setCell ⟨w.heap.size + 2, 2, none⟩ (.int .i64 0)).setCell ⟨w.heap.size + 2, 3, none⟩ (.int .i64 0)).heap[w.heap.size + 2]? = some (.cells #[.int .i64 0, .int .i64 0, .int .i64 0, .int .i64 0, .int .i64 0, .slice none 0 0, .slice none 0 0] 52) := heap_set_self g3 3 _
    have g5 : (((((((w7.setCell ⟨w.heap.size + 1, 0, none⟩ (.string ⟨s1.s.toArray⟩)).setCell ⟨w.heap.size + 1, 1, none⟩ (.int .i64 s1.e)).setCell ⟨w.heap.size + 2, 0, none⟩ (.int .i64 0)).setCell ⟨w.heap.size + 2, 1, none⟩ (.int .i64 0)).setCell ⟨w.heap.size + 2, 2, none⟩ (.int .i64 0)).setCell ⟨w.heap.size + 2, 3, none⟩ (.int .i64 0)).setCell ⟨w.heap.size + 2, 4, none⟩ (.int .i64 0)).heap[w.heap.size + 2]? = some (.cells #[.int .i64 0, .int .i64 0, .int .i64 0, .int .i64 0, .int .i64 0, .slice none 0 0, .slice none 0 0] 52) := heap_set_self g4 4 _
    have g6 : ((((((((w7.setCell ⟨w.heap.size + 1, 0, none⟩ (.string ⟨s1.s.toArray⟩)).setCell ⟨w.heap.size + 1, 1, none⟩ (.int .i64 s1.e)).setCell ⟨w.heap.size + 2, 0, none⟩ (.int .i64 0)).setCell ⟨w.heap.size + 2, 1, none⟩ (.int .i64 0)).setCell ⟨w.heap.size + 2, 2, none⟩ (.int .i64 0)).setCell ⟨w.heap.size + 2, 3, none⟩ (.int .i64 0)).setCell ⟨w.heap.size + 2, 4, none⟩ (.int .i64 0)).setCell ⟨w.heap.size + 2, 5, none⟩ (.slice none 0 0)).heap[w.heap.size + 2]? = some (.cells #[.int .i64 0, .int .i64 0, .int .i64 0, .int .i64 0, .int .i64 0, .slice none 0 0, .slice none 0 0] 52) := heap_set_self g5 5 _
    have g7 : (((((((((w7.setCell ⟨w.heap.size + 1, 0, none⟩ (.string ⟨s1.s.toArray⟩)).setCell ⟨w.heap.size + 1, 1, none⟩ (.int .i64 s1.e)).setCell ⟨w.heap.size + 2, 0, none⟩ (.int .i64 0)).setCell ⟨w.heap.size + 2, 1, none⟩ (.int .i64 0)).setCell ⟨w.heap.size + 2, 2, none⟩ (.int .i64 0)).setCell ⟨w.heap.size + 2, 3, none⟩ (.int .i64 0)).setCell ⟨w.heap.size + 2, 4, none⟩ (.int .i64 0)).setCell ⟨w.heap.size + 2, 5, none⟩ (.slice none 0 0)).setCell ⟨w.heap.size + 2, 6, none⟩ (.slice none 0 0)).heap[w.heap.size + 2]? = some (.cells #[.int .i64 0, .int .i64 0, .int .i64 0, .int .i64 0, .int .i64 0, .slice none 0 0, .slice none 0 0] 52) := heap_set_self g6 6 _
    have gO : Only (w.heap.size + 2) ((w7.setCell ⟨w.heap.size + 1, 0, none⟩ (.string ⟨s1.s.toArray⟩)).setCell ⟨w.heap.size + 1, 1, none⟩ (.int .i64 s1.e)) (((((((((w7.setCell ⟨w.heap.size + 1, 0, none⟩ (.string ⟨s1.s.toArray⟩)).setCell ⟨w.heap.size + 1, 1, none⟩ (.int .i64 s1.e)).setCell ⟨w.heap.size + 2, 0, none⟩ (.int .i64 0)).setCell ⟨w.heap.size + 2, 1, none⟩ (.int .i64 0)).setCell ⟨w.heap.size + 2, 2, none⟩ (.int .i64 0)).setCell ⟨w.heap.size + 2, 3, none⟩ (.int .i64 0)).setCell ⟨w.heap.size + 2, 4, none⟩ (.int .i64 0)).setCell ⟨w.heap.size + 2, 5, none⟩ (.slice none 0 0)).setCell ⟨w.heap.size + 2, 6, none⟩ (.slice none 0 0)) := (((((((Only.refl _ _).set 0 _).set 1 _).set 2 _).set 3 _).set 4 _).set 5 _).set 6 _
    have GI := Lib.hid (And.intro ((gO.block _ (lt_heap A2) (by omega)).trans A2) g7)
    have GO := Lib.hid (And.intro AO gO)
    clear A1 A2 AO hC1 g1 g2 g3 g4 g5 g6 g7 gO
    go_wp2_with fail
    generalize (((((((((w7.setCell ⟨w.heap.size + 1, 0, none⟩ (.string ⟨s1.s.toArray⟩)).setCell ⟨w.heap.size + 1, 1, none⟩ (.int .i64 s1.e)).setCell ⟨w.heap.size + 2, 0, none⟩ (.int .i64 0)).setCell ⟨w.heap.size + 2, 1, none⟩ (.int .i64 0)).setCell ⟨w.heap.size + 2, 2, none⟩ (.int .i64 0)).setCell ⟨w.heap.size + 2, 3, none⟩ (.int .i64 0)).setCell ⟨w.heap.size + 2, 4, none⟩ (.int .i64 0)).setCell ⟨w.heap.size + 2, 5, none⟩ (.slice none 0 0)).setCell ⟨w.heap.size + 2, 6, none⟩ (.slice none 0 0)) = wf at *
    generalize ((w7.setCell ⟨w.heap.size + 1, 0, none⟩ (.string ⟨s1.s.toArray⟩)).setCell ⟨w.heap.size + 1, 1, none⟩ (.int .i64 s1.e)) = wm at *
    obtain ⟨fi, fj⟩ := GI.out
    have y0 := cell_atD fi 0 (v := .string ⟨s1.s.toArray⟩) rfl
    have y1 := cell_atD fi 1 (v := .int .i64 s1.e) rfl
    have t0 := cell_atD fj 0 (v := .int .i64 0) rfl
    have t1 := cell_atD fj 1 (v := .int .i64 0) rfl
    have t2 := cell_atD fj 2 (v := .int .i64 0) rfl
    have t3 := cell_atD fj 3 (v := .int .i64 0) rfl
    have t4 := cell_atD fj 4 (v := .int .i64 0) rfl
    have t5 := cell_atD fj 5 (v := .slice none 0 0) rfl
    have t6 := cell_atD fj 6 (v := .slice none 0 0) rfl
    clear fi fj
    refine bodyPost_ret (v := .tuple #[.agg #[.string ⟨s1.s.toArray⟩, .int .i64 s1.e], .agg #[.int .i64 0, .int .i64 0, .int .i64 0, .int .i64 0, .int .i64 0, .slice none 0 0, .slice none 0 0]]) (by simp [results, Try.results28, go_sem, y0, y1, t0, t1, t2, t3, t4, t5, t6]) rfl ?_
    refine ⟨none, 0, none, 0, by rw [HFz.out.1, HFz.out.2.1, HFz.out.2.2.1, HFz.out.2.2.2]; rfl, by rw [HFz.out.2.2.2]; exact ⟨World.ownsRow_nil _ _ _ _, World.ownsRow_nil _ _ _ _⟩, (H7.out.1.2.2.2.1.trans (GO.out.1.below (by omega) H7.out.1.2.2.2.1.size)).trans (GO.out.2.below (by omega) (Nat.le_trans H7.out.1.2.2.2.1.size GO.out.1.size))⟩
end Go.Proofs.Ytlhjgpedmnjbpaa
/-
  The reference's commands and entries as bytes: tarnref12.PutCmd, tarnref13.Put; the end of what is read: R.End.
-/


namespace Go.Proofs.Ytlhjgpedmnjbpaa
open Go.RowKit
set_option linter.unusedVariables false
set_option linter.unusedSimpArgs false

set_option maxHeartbeats 3200000 in
set_option maxRecDepth 40000 in
theorem rpcmd (x : Int) (c : CF) (a1 a2 : Option Addr) (q1 q2 : Nat) (w : World) (h : CFat c w (.slice a1 c.M.length q1) (.slice a2 c.C.length q2)) (hm : mayK x c = true) :
    Calls Try.prog 14 #[.agg #[.int .i64 x, .int .i64 c.e, .int .i64 c.b, .int .i64 c.k, .slice a1 c.M.length q1, .slice a2 c.C.length q2]] w fun ev w' => ev = .returned (.string ⟨(putD x c).toArray⟩) ∧ Below w.heap.size w w' := by
  have hy := heap_alloc_self w (.cells #[.int .i64 x, .int .i64 c.e, .int .i64 c.b, .int .i64 c.k, .slice a1 c.M.length q1, .slice a2 c.C.length q2] 26)
  have hb : Below w.heap.size w (w.alloc (.cells #[.int .i64 x, .int .i64 c.e, .int .i64 c.b, .int .i64 c.k, .slice a1 c.M.length q1, .slice a2 c.C.length q2] 26)) := (Below.refl _ _).alloc (Nat.le_refl _) _
  obtain ⟨hx0, hx1, hl, -, hx2⟩ := mayK_in hm
  have hu : U64 x := ⟨by omega, by omega⟩
  have hw1 : IntKind.u64.wrap x = x := wrap_u64_in _ hu
  have he2 := hl.1.2 c.e (by simp)
  have l1 := putN_length x.toNat (by omega)
  have l2 := putN_length c.e.toNat (by omega)
  have l3 := putC_len hl
  have cp := fun w => refput_any x w hu
  have HC := Lib.hid (And.intro (h.below hb) hl)
  have HX := Lib.hid (And.intro hy hb)
  clear h
  by_cases h2 : x = 2
  · subst h2
    have hc1 := hx2 rfl
    have hu2 : U64 c.e := ⟨by omega, by omega⟩
    have hw2 : IntKind.u64.wrap c.e = c.e := wrap_u64_in _ hu2
    have cp2 := fun w => refput_any c.e w hu2
    have hpe : putD 2 c = putN (2 : Int).toNat ++ putN c.e.toNat := rfl
    obtain ⟨R, hR⟩ : ∃ R, putD 2 c = R := ⟨_, rfl⟩
    obtain ⟨P, hP⟩ : ∃ P, putN (2 : Int).toNat = P := ⟨_, rfl⟩
    obtain ⟨E, hE⟩ : ∃ E, putN c.e.toNat = E := ⟨_, rfl⟩
    rw [hR, hP, hE] at hpe
    rw [hR]
    rw [hP] at l1
    rw [hE] at l2
    simp only [hP] at cp
    simp only [hE] at cp2
    have HPE := Lib.hid hpe
    have hl3 : ¬ 9223372036854775807 < P.length + E.length := by omega
    have hl4 : P.length + E.length ≤ 9223372036854775807 := by omega
    have sa := str_append P E
    clear hR hP hE hpe hb hl hu hu2 hx2 hc1 hm l3
    go_enter Try.func14, Try.ntmps14
    go_upto_region 1 with fail
    generalize w.alloc (.cells #[.int .i64 2, .int .i64 c.e, .int .i64 c.b, .int .i64 c.k, .slice a1 c.M.length q1, .slice a2 c.C.length q2] 26) = w1 at *
    have d0 := cell_atD hy 0 (v := .int .i64 2) rfl
    have d1 := cell_atD hy 1 (v := .int .i64 c.e) rfl
    obtain ⟨N, hN⟩ : ∃ N, w1.heap.size = N := ⟨_, rfl⟩
    have hlt : w.heap.size < N := by have := lt_heap hy; omega
    have HN := Lib.hid hN
    have cs1 : ∀ w', N ≤ w'.heap.size → Calls Try.prog 78 #[.int .u64 2] w' fun e w'' => e = .returned (.string ⟨P.toArray⟩) ∧ Stays N w' w'' := fun w' h => (cp w').mono fun e w'' ⟨he, hw⟩ => ⟨he, stays_of h hw⟩
    have cs2 : ∀ w', N ≤ w'.heap.size ∧ Below N w1 w' → Calls Try.prog 78 #[.int .u64 c.e] w' fun e w'' => e = .returned (.string ⟨E.toArray⟩) ∧ Stays N w' w'' := fun w' h => (cp2 w').mono fun e w'' ⟨he, hw⟩ => ⟨he, stays_of h.1 hw⟩
    clear hy hN cp cp2
    go_upto_region 2 with fail
    go_region_held3 (fun w' => N ≤ w'.heap.size ∧ Below N w1 w' ∧ ∀ b o, b < N → w'.cell? ⟨b, o, none⟩ = w1.cell? ⟨b, o, none⟩) (first | assumption | exact keeps_start HN.out | exact keeps_next (by assumption) (by assumption)) (first | (go_at_call 78; ((with_reducible refine Calls.mono (cs1 _ (And.left (by assumption))) ?_)); rintro e wz ⟨rfl, hz⟩) | (go_at_call 78; ((with_reducible refine Calls.mono (cs2 _ ?hk) ?_)); (case hk => exact keepsV_two (by assumption)); rintro e wz ⟨rfl, hz⟩))
    rename_i hfin
    have FIN := Lib.hid (HX.out.2.trans (hfin.2.1.mono (by omega)))
    clear hfin
    go_wp2_with fail
    go_ret
    exact ⟨ret_str (by rw [HPE.out]), FIN.out⟩
  · have hpe : putD x c = putN x.toNat ++ putC c := by rw [putD, if_neg h2]
    have cd := fun w' (hb' : Below (w.alloc (.cells #[.int .i64 x, .int .i64 c.e, .int .i64 c.b, .int .i64 c.k, .slice a1 c.M.length q1, .slice a2 c.C.length q2] 26)).heap.size (w.alloc (.cells #[.int .i64 x, .int .i64 c.e, .int .i64 c.b, .int .i64 c.k, .slice a1 c.M.length q1, .slice a2 c.C.length q2] 26)) w') => rputC c a1 a2 q1 q2 w' (HC.out.1.below hb') HC.out.2.1 HC.out.2.2.1 HC.out.2.2.2
    obtain ⟨R, hR⟩ : ∃ R, putD x c = R := ⟨_, rfl⟩
    obtain ⟨P, hP⟩ : ∃ P, putN x.toNat = P := ⟨_, rfl⟩
    obtain ⟨E, hE⟩ : ∃ E, putC c = E := ⟨_, rfl⟩
    rw [hR, hP, hE] at hpe
    rw [hR]
    rw [hP] at l1
    rw [hE] at l3
    simp only [hP] at cp
    simp only [hE] at cd
    have HPE := Lib.hid hpe
    have hl3 : ¬ 9223372036854775807 < P.length + E.length := by omega
    have hl4 : P.length + E.length ≤ 9223372036854775807 := by omega
    have sa := str_append P E
    have u1 : (x == 2) = false := by simpa using h2
    clear hR hP hE hpe hb hl hu hx2 hm l2
    go_enter Try.func14, Try.ntmps14
    go_upto_region 1 with fail
    generalize w.alloc (.cells #[.int .i64 x, .int .i64 c.e, .int .i64 c.b, .int .i64 c.k, .slice a1 c.M.length q1, .slice a2 c.C.length q2] 26) = w1 at *
    have d0 := cell_atD hy 0 (v := .int .i64 x) rfl
    have d1 := cell_atD hy 1 (v := .int .i64 c.e) rfl
    have d2 := cell_atD hy 2 (v := .int .i64 c.b) rfl
    have d3 := cell_atD hy 3 (v := .int .i64 c.k) rfl
    have d4 := cell_atD hy 4 (v := .slice a1 c.M.length q1) rfl
    have d5 := cell_atD hy 5 (v := .slice a2 c.C.length q2) rfl
    obtain ⟨N, hN⟩ : ∃ N, w1.heap.size = N := ⟨_, rfl⟩
    have hlt : w.heap.size < N := by have := lt_heap hy; omega
    have HN := Lib.hid hN
    have cs1 : ∀ w', N ≤ w'.heap.size → Calls Try.prog 78 #[.int .u64 x] w' fun e w'' => e = .returned (.string ⟨P.toArray⟩) ∧ Stays N w' w'' := fun w' h => (cp w').mono fun e w'' ⟨he, hw⟩ => ⟨he, stays_of h hw⟩
    have cs2 : ∀ w', N ≤ w'.heap.size ∧ Below N w1 w' → Calls Try.prog 79 #[.agg #[.int .i64 c.e, .int .i64 c.b, .int .i64 c.k, .slice a1 c.M.length q1, .slice a2 c.C.length q2]] w' fun e w'' => e = .returned (.string ⟨E.toArray⟩) ∧ Stays N w' w'' := fun w' h => (cd w' (by rw [HN.out]; exact h.2)).mono fun e w'' ⟨he, hw⟩ => ⟨he, stays_of h.1 hw⟩
    clear hy hN cp cd HC
    go_upto_region 3 with fail
    go_region_held3 (fun w' => N ≤ w'.heap.size ∧ Below N w1 w' ∧ ∀ b o, b < N → w'.cell? ⟨b, o, none⟩ = w1.cell? ⟨b, o, none⟩) (first | assumption | exact keeps_start HN.out | exact keeps_next (by assumption) (by assumption)) (first | (go_at_call 78; ((with_reducible refine Calls.mono (cs1 _ (And.left (by assumption))) ?_)); rintro e wz ⟨rfl, hz⟩) | (go_at_call 79; ((with_reducible refine Calls.mono (cs2 _ ?hk) ?_)); (case hk => exact keepsV_two (by assumption)); rintro e wz ⟨rfl, hz⟩))
    rename_i hfin
    have FIN := Lib.hid (HX.out.2.trans (hfin.2.1.mono (by omega)))
    clear hfin
    go_wp2_with fail
    go_ret
    exact ⟨ret_str (by rw [HPE.out]), FIN.out⟩
/-- an entry's bytes, as the reference has them -/
def putZ (t x : Int) (c : CF) : List UInt8 := if mayE t x c = true then putE t x c else []
set_option maxHeartbeats 3200000 in
set_option maxRecDepth 40000 in
theorem rpent (t x : Int) (c : CF) (a1 a2 : Option Addr) (q1 q2 : Nat) (w : World) (h : CFat c w (.slice a1 c.M.length q1) (.slice a2 c.C.length q2)) :
    Calls Try.prog 25 #[.agg #[.int .i64 t, .int .i64 x, .int .i64 c.e, .int .i64 c.b, .int .i64 c.k, .slice a1 c.M.length q1, .slice a2 c.C.length q2]] w fun ev w' => ev = .returned (.string ⟨(putZ t x c).toArray⟩) ∧ Below w.heap.size w w' := by
  have hy := heap_alloc_self w (.cells #[.int .i64 t, .int .i64 x, .int .i64 c.e, .int .i64 c.b, .int .i64 c.k, .slice a1 c.M.length q1, .slice a2 c.C.length q2] 52)
  have hb : Below w.heap.size w (w.alloc (.cells #[.int .i64 t, .int .i64 x, .int .i64 c.e, .int .i64 c.b, .int .i64 c.k, .slice a1 c.M.length q1, .slice a2 c.C.length q2] 52)) := (Below.refl _ _).alloc (Nat.le_refl _) _
  have cm := rmayE t x c a1 a2 q1 q2 _ (h.below hb)
  rcases hm : mayE t x c
  · have HZ := Lib.hid (show putZ t x c = [] by rw [putZ, hm]; rfl)
    have HB := Lib.hid hb
    rw [hm] at cm
    clear hm hb h
    go_enter Try.func25, Try.ntmps25
    go_upto_region 1 with fail
    generalize w.alloc (.cells #[.int .i64 t, .int .i64 x, .int .i64 c.e, .int .i64 c.b, .int .i64 c.k, .slice a1 c.M.length q1, .slice a2 c.C.length q2] 52) = w1 at *
    have d0 := cell_atD hy 0 (v := .int .i64 t) rfl
    have d1 := cell_atD hy 1 (v := .int .i64 x) rfl
    have d2 := cell_atD hy 2 (v := .int .i64 c.e) rfl
    have d3 := cell_atD hy 3 (v := .int .i64 c.b) rfl
    have d4 := cell_atD hy 4 (v := .int .i64 c.k) rfl
    have d5 := cell_atD hy 5 (v := .slice a1 c.M.length q1) rfl
    have d6 := cell_atD hy 6 (v := .slice a2 c.C.length q2) rfl
    clear hy
    go_wp2_with fail
    refine Calls.mono cm ?_
    rintro ev w2 ⟨rfl, hb2⟩
    have FIN := Lib.hid (HB.out.trans (hb2.mono HB.out.size))
    clear hb2 cm
    go_wp2_with fail
    go_ret
    exact ⟨ret_str (by rw [HZ.out]), FIN.out⟩
  · have hme := hm
    simp only [mayE, Bool.and_eq_true, decide_eq_true_eq] at hme
    obtain ⟨ht1, ht2, hk⟩ := hme
    obtain ⟨hx0, hx1, hlow, -, -⟩ := mayK_in hk
    have hu : U64 t := ⟨by omega, by omega⟩
    have hw1 : IntKind.u64.wrap t = t := wrap_u64_in _ hu
    have l1 := putN_length t.toNat (by omega)
    have l2 := putD_len (x := x) (c := c) ⟨hx0, by omega⟩ hlow
    have hpe : putZ t x c = putN t.toNat ++ putD x c := by rw [putZ, hm]; rfl
    have cp := fun w => refput_any t w hu
    have cd := fun w' (hb' : Below (w.alloc (.cells #[.int .i64 t, .int .i64 x, .int .i64 c.e, .int .i64 c.b, .int .i64 c.k, .slice a1 c.M.length q1, .slice a2 c.C.length q2] 52)).heap.size (w.alloc (.cells #[.int .i64 t, .int .i64 x, .int .i64 c.e, .int .i64 c.b, .int .i64 c.k, .slice a1 c.M.length q1, .slice a2 c.C.length q2] 52)) w') => rpcmd x c a1 a2 q1 q2 w' ((h.below hb).below hb') hk
    rw [hm] at cm
    obtain ⟨R, hR⟩ : ∃ R, putZ t x c = R := ⟨_, rfl⟩
    obtain ⟨P, hP⟩ : ∃ P, putN t.toNat = P := ⟨_, rfl⟩
    obtain ⟨E, hD⟩ : ∃ D, putD x c = D := ⟨_, rfl⟩
    rw [hR, hP, hD] at hpe
    rw [hR]
    simp only [hP] at cp l1
    simp only [hD] at cd l2
    have HPE := Lib.hid hpe
    have HX := Lib.hid (And.intro hy hb)
    have hl3 : ¬ 9223372036854775807 < P.length + E.length := by omega
    have hl4 : P.length + E.length ≤ 9223372036854775807 := by omega
    have sa := str_append P E
    clear hR hP hD hpe hb h hm hk hlow hu
    go_enter Try.func25, Try.ntmps25
    go_upto_region 1 with fail
    generalize w.alloc (.cells #[.int .i64 t, .int .i64 x, .int .i64 c.e, .int .i64 c.b, .int .i64 c.k, .slice a1 c.M.length q1, .slice a2 c.C.length q2] 52) = w1 at *
    have d0 := cell_atD hy 0 (v := .int .i64 t) rfl
    have d1 := cell_atD hy 1 (v := .int .i64 x) rfl
    have d2 := cell_atD hy 2 (v := .int .i64 c.e) rfl
    have d3 := cell_atD hy 3 (v := .int .i64 c.b) rfl
    have d4 := cell_atD hy 4 (v := .int .i64 c.k) rfl
    have d5 := cell_atD hy 5 (v := .slice a1 c.M.length q1) rfl
    have d6 := cell_atD hy 6 (v := .slice a2 c.C.length q2) rfl
    clear hy
    go_wp2_with fail
    refine Calls.mono cm ?_
    rintro ev w2 ⟨rfl, hb2⟩
    have hy := below_at hb2 (lt_heap HX.out.1) HX.out.1
    clear d0 d1 d2 d3 d4 d5 d6 cm
    have d0 := cell_atD hy 0 (v := .int .i64 t) rfl
    have d1 := cell_atD hy 1 (v := .int .i64 x) rfl
    have d2 := cell_atD hy 2 (v := .int .i64 c.e) rfl
    have d3 := cell_atD hy 3 (v := .int .i64 c.b) rfl
    have d4 := cell_atD hy 4 (v := .int .i64 c.k) rfl
    have d5 := cell_atD hy 5 (v := .slice a1 c.M.length q1) rfl
    have d6 := cell_atD hy 6 (v := .slice a2 c.C.length q2) rfl
    obtain ⟨N, hN⟩ : ∃ N, w2.heap.size = N := ⟨_, rfl⟩
    have hlt : w.heap.size < N := by have := lt_heap hy; omega
    have HN := Lib.hid hN
    have HB2 := Lib.hid hb2
    have cs1 : ∀ w', N ≤ w'.heap.size → Calls Try.prog 78 #[.int .u64 t] w' fun e w'' => e = .returned (.string ⟨P.toArray⟩) ∧ Stays N w' w'' := fun w' h => (cp w').mono fun e w'' ⟨he, hw⟩ => ⟨he, stays_of h hw⟩
    have cs2 : ∀ w', N ≤ w'.heap.size ∧ Below N w2 w' → Calls Try.prog 14 #[.agg #[.int .i64 x, .int .i64 c.e, .int .i64 c.b, .int .i64 c.k, .slice a1 c.M.length q1, .slice a2 c.C.length q2]] w' fun e w'' => e = .returned (.string ⟨E.toArray⟩) ∧ Stays N w' w'' := fun w' h => (cd w' (HB2.out.trans (h.2.mono (by rw [← HN.out]; exact HB2.out.size)))).mono fun e w'' ⟨he, hw⟩ => ⟨he, stays_of h.1 hw⟩
    clear hy hN hb2 cp cd
    go_upto_region 3 with fail
    go_region_held3 (fun w' => N ≤ w'.heap.size ∧ Below N w2 w' ∧ ∀ b o, b < N → w'.cell? ⟨b, o, none⟩ = w2.cell? ⟨b, o, none⟩) (first | assumption | exact keeps_start HN.out | exact keeps_next (by assumption) (by assumption)) (first | (go_at_call 78; ((with_reducible refine Calls.mono (cs1 _ (And.left (by assumption))) ?_)); rintro e wz ⟨rfl, hz⟩) | (go_at_call 14; ((with_reducible refine Calls.mono (cs2 _ ?hk) ?_)); (case hk => exact keepsV_two (by assumption)); rintro e wz ⟨rfl, hz⟩))
    rename_i hfin
    have FIN := Lib.hid ((HX.out.2.trans (HB2.out.mono HX.out.2.size)).trans (hfin.2.1.mono (by omega)))
    clear hfin
    go_wp2_with fail
    go_ret
    exact ⟨ret_str (by rw [HPE.out]), FIN.out⟩
theorem arr_nil (l : List UInt8) : ((⟨l.toArray⟩ : ByteArray) = ⟨#[]⟩) ↔ l = [] := by
  constructor
  · intro h
    have := congrArg (fun b => b.data.toList) h
    simpa using this
  · rintro rfl
    rfl
theorem rend (r : RS) (w : World) : Calls Try.prog 32 #[rC r] w fun e w' => e = .returned (.int .i64 r.endS.e) ∧ Below w.heap.size w w' := by
  obtain ⟨E, hE⟩ : ∃ E, r.endS.e = E := ⟨_, rfl⟩
  rw [hE]
  have hE' : E = if r.e = 0 ∧ r.s ≠ [] then 3 else r.e := by
    rw [← hE]
    unfold RS.endS
    by_cases h : r.e = 0
    · by_cases k : r.s = [] <;> simp [h, k, RS.fail]
    · by_cases k : r.s = [] <;> simp [h, k, RS.fail]
  have HE := Lib.hid hE'
  clear hE hE'
  obtain ⟨s, er⟩ := r
  unfold rC
  have hx := heap_alloc_self w (.cells #[.string ⟨s.toArray⟩, .int .i64 er] 35)
  have hb : Below w.heap.size w (w.alloc (.cells #[.string ⟨s.toArray⟩, .int .i64 er] 35)) := (Below.refl _ _).alloc (Nat.le_refl _) _
  simp only at HE ⊢
  go_enter Try.func32, Try.ntmps32
  go_upto_region 1 with fail
  generalize w.alloc (.cells #[.string ⟨s.toArray⟩, .int .i64 er] 35) = w1 at *
  have c0 := cell_atD hx 0 (v := .string ⟨s.toArray⟩) rfl
  have c1 := cell_atD hx 1 (v := .int .i64 er) rfl
  have HB := Lib.hid hb
  clear hx hb
  by_cases h : er = 0
  · have e0 := HE.out
    subst h
    by_cases k : s = []
    · subst k
      have e1 : E = 0 := by rw [e0]; rfl
      have HE1 := Lib.hid e1
      clear e0 e1
      go_wp2_with fail
      go_ret
      exact ⟨ret_int HE1.out.symm, HB.out⟩
    · have e1 : E = 3 := by rw [e0, if_pos ⟨rfl, k⟩]
      have HE1 := Lib.hid e1
      have hn : s.isEmpty = false := by cases s with | nil => exact absurd rfl k | cons a l => rfl
      clear e0 e1
      go_wp2_with fail
      go_ret
      exact ⟨ret_int HE1.out.symm, HB.out⟩
  · have e1 : E = er := by rw [HE.out, if_neg (fun q => h q.1)]
    have HE1 := Lib.hid e1
    have u1 : (er == 0) = false := by simpa using h
    clear h e1
    go_wp2_with fail
    go_ret
    exact ⟨ret_int HE1.out.symm, HB.out⟩
end Go.Proofs.Ytlhjgpedmnjbpaa
/-
  EntryGets' law.
-/



namespace Go.Proofs.Ytlhjgpedmnjbpaa
open Go.RowKit
set_option linter.unusedVariables false
set_option linter.unusedSimpArgs false

theorem putZ_len (t x : Int) (c : CF) : (putZ t x c).length ≤ 50000 := by
  unfold putZ
  split
  · rename_i hm
    simp only [mayE, Bool.and_eq_true, decide_eq_true_eq] at hm
    obtain ⟨ht1, ht2, hk⟩ := hm
    obtain ⟨hx0, hx1, hlow, -, -⟩ := mayK_in hk
    have l1 := putN_length t.toNat (by omega)
    have l2 := putD_len (x := x) (c := c) ⟨hx0, by omega⟩ hlow
    unfold putE
    rw [List.length_append]
    omega
  · simp
theorem sameE_me (t x : Int) (c : CF) : sameE t x c t x c = true := by simp [sameE, sameC_self]
theorem bend_at (a n : Int) (hn : 0 < n) : -n < a.tmod n ∧ a.tmod n < n ∧ 0 ≤ (a.tmod n + n).tmod n ∧ (a.tmod n + n).tmod n < n := by
  have h1 : a.tmod n < n := Int.tmod_lt_of_pos _ hn
  have h2 : -n < a.tmod n := by
    have := Int.tmod_lt_of_pos (-a) hn
    rw [Int.neg_tmod] at this
    omega
  exact ⟨h2, h1, Int.tmod_nonneg _ (by omega), Int.tmod_lt_of_pos _ hn⟩
set_option maxHeartbeats 6400000 in
set_option maxRecDepth 100000 in
theorem entrygets_law (ea : Array Value) (za : Int) (D : ByteArray) (w : World) (hf : Fits w entShI ea.toList) (hza : (Lit.int .i64 za).wf = true) (hD : D.size ≤ maxLen) :
    Calls Try.prog 4 #[.agg ea, .int .i64 za, .string D] w fun e w' => e = .returned (.bool true) ∧ Below w.heap.size w w' := by
  obtain ⟨e, he0, hea⟩ := fits_enI hf
  obtain rfl : ea = #[.int .i64 e.t, .int .i64 e.x, .int .i64 e.c.e, .int .i64 e.c.b, .int .i64 e.c.k, .slice e.a1 e.c.M.length e.q1, .slice e.a2 e.c.C.length e.q2] := by rw [← Array.toList_inj, he0]; rfl
  clear he0 hf hza
  have hx := heap_alloc_self w (.cells #[.int .i64 e.t, .int .i64 e.x, .int .i64 e.c.e, .int .i64 e.c.b, .int .i64 e.c.k, .slice e.a1 e.c.M.length e.q1, .slice e.a2 e.c.C.length e.q2] 52)
  have hb : Below w.heap.size w (w.alloc (.cells #[.int .i64 e.t, .int .i64 e.x, .int .i64 e.c.e, .int .i64 e.c.b, .int .i64 e.c.k, .slice e.a1 e.c.M.length e.q1, .slice e.a2 e.c.C.length e.q2] 52)) := (Below.refl _ _).alloc (Nat.le_refl _) _
  have cN := near13O 6 (by decide) e _ (CFat.below hea hb)
  have HB := Lib.hid hb
  unfold maxLen at hD
  go_enter Try.func4, Try.ntmps4
  go_upto_region 1 with fail
  generalize w.alloc (.cells #[.int .i64 e.t, .int .i64 e.x, .int .i64 e.c.e, .int .i64 e.c.b, .int .i64 e.c.k, .slice e.a1 e.c.M.length e.q1, .slice e.a2 e.c.C.length e.q2] 52) = w1 at *
  have c0 := cell_atD hx 0 (v := .int .i64 e.t) rfl
  have c1 := cell_atD hx 1 (v := .int .i64 e.x) rfl
  have c2 := cell_atD hx 2 (v := .int .i64 e.c.e) rfl
  have c3 := cell_atD hx 3 (v := .int .i64 e.c.b) rfl
  have c4 := cell_atD hx 4 (v := .int .i64 e.c.k) rfl
  have c5 := cell_atD hx 5 (v := .slice e.a1 e.c.M.length e.q1) rfl
  have c6 := cell_atD hx 6 (v := .slice e.a2 e.c.C.length e.q2) rfl
  clear hx hb hea
  go_wp2_with fail
  refine Calls.mono cN ?_
  rintro ev w2 ⟨t0, y, de, db, dk, n1, n2, a1, p1, a2, p2, rfl, hL, hb2⟩
  obtain ⟨M, C, rfl, ⟨rfl, hs1, hs2⟩, r1, r2, o1, o2⟩ := hL
  have cp := rpent t0 y ⟨de, db, dk, M, C⟩ a1 a2 p1 p2 w2 ⟨r1, r2⟩
  have hPl := putZ_len t0 y ⟨de, db, dk, M, C⟩
  obtain ⟨P, hP⟩ : ∃ P : ByteArray, (⟨(putZ t0 y ⟨de, db, dk, M, C⟩).toArray⟩ : ByteArray) = P := ⟨_, rfl⟩
  have hPs : P.size ≤ 50000 := by
    rw [← hP]
    show (putZ t0 y ⟨de, db, dk, M, C⟩).toArray.size ≤ 50000
    rw [List.size_toArray]
    exact hPl
  rw [hP] at cp
  have HB2 := Lib.hid (HB.out.trans (hb2.mono HB.out.size))
  clear c0 c1 c2 c3 c4 c5 c6 cN hP hPl r1 r2 o1 o2 hs1 hs2 HB hb2
  go_wp2_with fail
  refine Calls.mono cp ?_
  rintro ev w3 ⟨rfl, hb3⟩
  have HB3 := Lib.hid (HB2.out.trans (hb3.mono HB2.out.size))
  clear cp hb3 HB2
  obtain ⟨tb, htb⟩ : ∃ tb, decide (0 < P.size) = tb := ⟨_, rfl⟩
  go_upto_if 20 with fail
  go_cut [7] (fun sv wx => ∃ B : ByteArray, sv = .string B ∧ B.size ≤ 100000 ∧ Hid (Below w.heap.size w wx))
  case first =>
    cases tb
    · have HF := Lib.hid (show ∃ B : ByteArray, Value.string P = .string B ∧ B.size ≤ 100000 ∧ Hid (Below w.heap.size w w3) from ⟨P, rfl, by omega, HB3⟩)
      clear htb
      go_wp2_with fail
      go_meet
      exact HF.out
    · have h0n : 0 < P.size := by simpa using htb
      have h0' : (0 : Int) < (P.size : Int) := by omega
      obtain ⟨b1, b2, b3, b4⟩ := bend_at za (P.size : Int) h0'
      obtain ⟨q, hq⟩ : ∃ q, za.tmod (P.size : Int) = q := ⟨_, rfl⟩
      obtain ⟨k, hk⟩ : ∃ k, (q + (P.size : Int)).tmod (P.size : Int) = k := ⟨_, rfl⟩
      rw [hq] at b1 b2 b3 b4
      rw [hk] at b3 b4
      obtain ⟨u, hu⟩ : ∃ u, min (D.size : Int) 4 = u := ⟨_, rfl⟩
      have hu1 : u ≤ 4 := by omega
      have hu2 : u ≤ (D.size : Int) := by omega
      have hu0 : 0 ≤ u := by omega
      have hbit : bits .and .i64 (D.size : Int) 1 = (D.size : Int) % 2 := mask_mod (D.size : Int) 1 1 (by decide) (by decide)
      obtain ⟨b, hbb⟩ : ∃ b, (D.size : Int) % 2 = b := ⟨_, rfl⟩
      have hb0 : 0 ≤ b ∧ b ≤ 1 := by omega
      rw [hbb] at hbit
      obtain ⟨m, hm⟩ : ∃ m, min (k + b) (P.size : Int) = m := ⟨_, rfl⟩
      have hm0 : 0 ≤ m ∧ m ≤ (P.size : Int) := by omega
      obtain ⟨hb00, hb01⟩ := hb0
      obtain ⟨hm00, hm01⟩ := hm0
      have hn0 : ¬ (P.size : Int) = 0 := by omega
      have hww : IntKind.i64.wrap (k + b) = k + b := IntWalk.i64_in _ (by omega)
      clear htb hbb
      go_wp2_with fail
      go_quiet (fail)
      go_wp2_with fail
      go_meet
      exact ⟨_, rfl, by { simp only [ByteArray.size_append, ByteArray.size_extract]; omega }, Lib.hid ⟨HB3.out.os, HB3.out.tape, HB3.out.output, HB3.out.size, HB3.out.block⟩⟩
  case rest =>
    obtain ⟨B, rfl, hBs, HB4⟩ := hcut
    obtain ⟨S, rfl⟩ : ∃ S : List UInt8, B = ⟨S.toArray⟩ := ⟨B.data.toList, str_ext (by simp)⟩
    have hSl : S.length ≤ 1000000 := by
      have : (⟨S.toArray⟩ : ByteArray).size = S.length := List.size_toArray
      omega
    clear htb hPs hBs HB3 hD
    have cg := eget S wc
    have ct := fun w => etakeR ⟨S, 0⟩ w (.inl rfl) hSl
    have cz := etakeG ⟨S, 0⟩
    have q0 : (getS S).e = (⟨S, 0⟩ : RS).entS.endS.e := rfl
    have q1 : getT S = if (getS S).e ≠ 0 then 0 else (⟨S, 0⟩ : RS).entT := rfl
    have q2 : getX S = if (getS S).e ≠ 0 then 0 else (⟨S, 0⟩ : RS).entX := rfl
    have q3 : getC S = if (getS S).e ≠ 0 then ⟨0, 0, 0, [], []⟩ else (⟨S, 0⟩ : RS).entC := rfl
    unfold EGetP at cg
    unfold RET at ct
    unfold ETakeP at cz
    obtain ⟨S1, hS1⟩ : ∃ S1, (⟨S, 0⟩ : RS).entS = S1 := ⟨_, rfl⟩
    obtain ⟨t1, ht1⟩ : ∃ t, (⟨S, 0⟩ : RS).entT = t := ⟨_, rfl⟩
    obtain ⟨x1, hx1⟩ : ∃ t, (⟨S, 0⟩ : RS).entX = t := ⟨_, rfl⟩
    obtain ⟨c1, hc1⟩ : ∃ t, (⟨S, 0⟩ : RS).entC = t := ⟨_, rfl⟩
    obtain ⟨E, hE⟩ : ∃ t, (getS S).e = t := ⟨_, rfl⟩
    obtain ⟨t2, ht2⟩ : ∃ t, getT S = t := ⟨_, rfl⟩
    obtain ⟨x2, hx2⟩ : ∃ t, getX S = t := ⟨_, rfl⟩
    obtain ⟨c2, hc2⟩ : ∃ t, getC S = t := ⟨_, rfl⟩
    rw [hE, hS1] at q0
    rw [ht2, hE, ht1] at q1
    rw [hx2, hE, hx1] at q2
    rw [hc2, hE, hc1] at q3
    rw [ht2, hx2, hc2, hE] at cg
    simp only [hS1, ht1, hx1, hc1] at ct cz
    have HQ := Lib.hid (And.intro q0 (And.intro q1 (And.intro q2 q3)))
    have CT := Lib.hid ct
    have CZ := Lib.hid cz
    clear hS1 ht1 hx1 hc1 hE ht2 hx2 hc2 q0 q1 q2 q3 ct cz hSl
    go_wp2_with fail
    refine Calls.mono cg ?_
    rintro ev w5 ⟨g1, u1, g2, u2, rfl, hL5, hb5⟩
    have hP := heap_alloc_self w5 (.cells #[.int .i64 t2, .int .i64 x2, .int .i64 c2.e, .int .i64 c2.b, .int .i64 c2.k, .slice g1 c2.M.length u1, .slice g2 c2.C.length u2] 52)
    have hb56 : Below w5.heap.size w5 (w5.alloc (.cells #[.int .i64 t2, .int .i64 x2, .int .i64 c2.e, .int .i64 c2.b, .int .i64 c2.k, .slice g1 c2.M.length u1, .slice g2 c2.C.length u2] 52)) := (Below.refl _ _).alloc (Nat.le_refl _) _
    have H6 := Lib.hid (And.intro hP (And.intro (hL5.at_.below hb56) ((HB4.out.trans (hb5.mono HB4.out.size)).trans (hb56.mono (Nat.le_trans HB4.out.size hb5.size)))))
    clear hP hb56 hL5 hb5 cg HB4
    go_upto_region 6 with fail
    generalize w5.alloc (.cells #[.int .i64 t2, .int .i64 x2, .int .i64 c2.e, .int .i64 c2.b, .int .i64 c2.k, .slice g1 c2.M.length u1, .slice g2 c2.C.length u2] 52) = w6 at *
    obtain ⟨X, hX⟩ : ∃ X, w5.heap.size = X := ⟨_, rfl⟩
    rw [hX] at H6
    try rw [hX]
    clear hX
    have ct := CT.out w6
    unfold rC at ct
    go_wp2_with fail
    refine Calls.mono ct ?_
    rintro ev w7 ⟨d1, s1, d2, s2, rfl, hL7, hb7⟩
    obtain ⟨hR, hY⟩ := two_blocks w7 (.cells #[.string ⟨S1.s.toArray⟩, .int .i64 S1.e] 35) (.cells #[.int .i64 t1, .int .i64 x1, .int .i64 c1.e, .int .i64 c1.b, .int .i64 c1.k, .slice d1 c1.M.length s1, .slice d2 c1.C.length s2] 52)
    have hb78 : Below w7.heap.size w7 ((w7.alloc (.cells #[.string ⟨S1.s.toArray⟩, .int .i64 S1.e] 35)).alloc (.cells #[.int .i64 t1, .int .i64 x1, .int .i64 c1.e, .int .i64 c1.b, .int .i64 c1.k, .slice d1 c1.M.length s1, .slice d2 c1.C.length s2] 52)) := ((Below.refl _ _).alloc (Nat.le_refl _) _).alloc (by simp) _
    have H8 := Lib.hid (And.intro (below_at (hb7.trans (hb78.mono hb7.size)) (lt_heap H6.out.1) H6.out.1) (And.intro (H6.out.2.1.below (hb7.trans (hb78.mono hb7.size))) (And.intro hR (And.intro hY (And.intro (hL7.at_.below hb78) (H6.out.2.2.trans ((hb7.trans (hb78.mono hb7.size)).mono H6.out.2.2.size)))))))
    clear hR hY hb78 hL7 hb7 H6 ct CT
    go_upto_region 7 with fail
    generalize (w7.alloc (.cells #[.string ⟨S1.s.toArray⟩, .int .i64 S1.e] 35)).alloc (.cells #[.int .i64 t1, .int .i64 x1, .int .i64 c1.e, .int .i64 c1.b, .int .i64 c1.k, .slice d1 c1.M.length s1, .slice d2 c1.C.length s2] 52) = w8 at *
    obtain ⟨V, hV⟩ : ∃ X, w7.heap.size = X := ⟨_, rfl⟩
    rw [hV] at H8
    try rw [hV]
    clear hV
    have cf := from_any ⟨S.toArray⟩ w8
    go_wp2_with fail
    refine Calls.mono cf ?_
    rintro ev w9' ⟨rfl, rfl⟩
    have hs9 : Src (w8.alloc (.cells #[.string ⟨S.toArray⟩, .int .i64 0] 134)) w8.heap.size ⟨S, 0⟩ := heap_alloc_self _ _
    have hb89 : Below w8.heap.size w8 (w8.alloc (.cells #[.string ⟨S.toArray⟩, .int .i64 0] 134)) := (Below.refl _ _).alloc (Nat.le_refl _) _
    have cz := CZ.out _ _ hs9
    have H9 := Lib.hid (And.intro hb89 (lt_heap hs9))
    clear hs9 hb89 CZ cf
    go_upto_region 8 with fail
    generalize w8.alloc (.cells #[.string ⟨S.toArray⟩, .int .i64 0] 134) = w9 at *
    go_wp2_with fail
    refine Calls.mono cz ?_
    rintro ev w10 ⟨d3, s3, d4, s4, rfl, hL10, s10, t10⟩
    have hP := heap_alloc_self w10 (.cells #[.int .i64 t1, .int .i64 x1, .int .i64 c1.e, .int .i64 c1.b, .int .i64 c1.k, .slice d3 c1.M.length s3, .slice d4 c1.C.length s4] 52)
    have hbA : Below w10.heap.size w10 (w10.alloc (.cells #[.int .i64 t1, .int .i64 x1, .int .i64 c1.e, .int .i64 c1.b, .int .i64 c1.k, .slice d3 c1.M.length s3, .slice d4 c1.C.length s4] 52)) := (Below.refl _ _).alloc (Nat.le_refl _) _
    have hb8A : Below w8.heap.size w8 (w10.alloc (.cells #[.int .i64 t1, .int .i64 x1, .int .i64 c1.e, .int .i64 c1.b, .int .i64 c1.k, .slice d3 c1.M.length s3, .slice d4 c1.C.length s4] 52)) := (H9.out.1.trans (t10.below (B := w8.heap.size) (Nat.le_refl _) H9.out.1.size)).trans (hbA.mono (Nat.le_trans H9.out.1.size t10.size))
    have HA := Lib.hid (And.intro (below_at hb8A (lt_heap H8.out.1) H8.out.1) (And.intro (H8.out.2.1.below hb8A) (And.intro (below_at hb8A (lt_heap H8.out.2.2.1) H8.out.2.2.1) (And.intro (below_at hb8A (lt_heap H8.out.2.2.2.1) H8.out.2.2.2.1) (And.intro (H8.out.2.2.2.2.1.below hb8A) (And.intro (H8.out.2.2.2.2.2.trans (hb8A.mono H8.out.2.2.2.2.2.size)) (And.intro hP (And.intro (hL10.at_.below hbA) (below_at hbA (lt_heap s10) s10)))))))))
    clear hP hbA hb8A hL10 s10 t10 H9 H8 cz
    go_upto_region 9 with fail
    obtain ⟨Y, hY⟩ : ∃ X, w8.heap.size = X := ⟨_, rfl⟩
    rw [hY] at HA
    try rw [hY]
    clear hY
    generalize w10.alloc (.cells #[.int .i64 t1, .int .i64 x1, .int .i64 c1.e, .int .i64 c1.b, .int .i64 c1.k, .slice d3 c1.M.length s3, .slice d4 c1.C.length s4] 52) = w11 at *
    obtain ⟨Z, hZ⟩ : ∃ X, w10.heap.size = X := ⟨_, rfl⟩
    rw [hZ] at HA
    try rw [hZ]
    clear hZ
    obtain ⟨N, hN⟩ : ∃ N, w11.heap.size = N := ⟨_, rfl⟩
    have hNW : N ≤ w11.heap.size := by omega
    have hlZ : Z < N := by rw [← hN]; exact lt_heap HA.out.2.2.2.2.2.2.1
    have hlV : V < N := by rw [← hN]; exact lt_heap HA.out.2.2.1
    have hlV1 : V + 1 < N := by rw [← hN]; exact lt_heap HA.out.2.2.2.1
    have m1 : ∀ w', N ≤ w'.heap.size ∧ Below N w11 w' → Calls Try.prog 30 #[.agg #[.int .i64 t1, .int .i64 x1, .int .i64 c1.e, .int .i64 c1.b, .int .i64 c1.k, .slice d3 c1.M.length s3, .slice d4 c1.C.length s4], .agg #[.int .i64 t1, .int .i64 x1, .int .i64 c1.e, .int .i64 c1.b, .int .i64 c1.k, .slice d1 c1.M.length s1, .slice d2 c1.C.length s2]] w' fun e w'' => e = .returned (.bool true) ∧ Stays N w' w'' := by
      intro w' h
      have := rsameE t1 x1 c1 t1 x1 c1 d3 d4 d1 d2 s3 s4 s1 s2 w' (HA.out.2.2.2.2.2.2.2.1.below (by rw [hN]; exact h.2)) (HA.out.2.2.2.2.1.below (by rw [hN]; exact h.2))
      rw [sameE_me] at this
      exact this.mono fun e w'' ⟨he, hw⟩ => ⟨he, stays_of h.1 hw⟩
    have m2 : ∀ w', N ≤ w'.heap.size ∧ Below N w11 w' → Calls Try.prog 18 #[.pointer (some ⟨Y, 0, none⟩)] w' fun e w'' => e = .returned (.int .i64 S1.e) ∧ Stays N w' w'' := by
      intro w' h
      have hs : Src w' Y S1 := below_at h.2 (by rw [← hN]; exact lt_heap HA.out.2.2.2.2.2.2.2.2) HA.out.2.2.2.2.2.2.2.2
      exact (err_some Y S1.e w' (Src.c1 hs)).mono fun e w'' ⟨he, hw⟩ => ⟨he, by subst hw; exact stays_of h.1 (Below.refl _ _)⟩
    have m3 : ∀ w', N ≤ w'.heap.size ∧ Below N w11 w' → Calls Try.prog 31 #[.pointer (some ⟨Y, 0, none⟩)] w' fun e w'' => e = .returned (.int .i64 S1.s.length) ∧ Stays N w' w'' := by
      intro w' h
      have hs : Src w' Y S1 := below_at h.2 (by rw [← hN]; exact lt_heap HA.out.2.2.2.2.2.2.2.2) HA.out.2.2.2.2.2.2.2.2
      exact (left_some Y S1.s w' (cell_atD hs 0 rfl)).mono fun e w'' ⟨he, hw⟩ => ⟨he, by subst hw; exact stays_of h.1 (Below.refl _ _)⟩
    obtain ⟨r0, r1, rf⟩ := two_cellsR HA.out.2.2.1
    have y0 := cell_atD HA.out.2.2.2.1 0 (v := .int .i64 t1) rfl
    have y1 := cell_atD HA.out.2.2.2.1 1 (v := .int .i64 x1) rfl
    have y2 := cell_atD HA.out.2.2.2.1 2 (v := .int .i64 c1.e) rfl
    have y3 := cell_atD HA.out.2.2.2.1 3 (v := .int .i64 c1.b) rfl
    have y4 := cell_atD HA.out.2.2.2.1 4 (v := .int .i64 c1.k) rfl
    have y5 := cell_atD HA.out.2.2.2.1 5 (v := .slice d1 c1.M.length s1) rfl
    have y6 := cell_atD HA.out.2.2.2.1 6 (v := .slice d2 c1.C.length s2) rfl
    have z0 := cell_atD HA.out.2.2.2.2.2.2.1 0 (v := .int .i64 t1) rfl
    have z1 := cell_atD HA.out.2.2.2.2.2.2.1 1 (v := .int .i64 x1) rfl
    have z2 := cell_atD HA.out.2.2.2.2.2.2.1 2 (v := .int .i64 c1.e) rfl
    have z3 := cell_atD HA.out.2.2.2.2.2.2.1 3 (v := .int .i64 c1.b) rfl
    have z4 := cell_atD HA.out.2.2.2.2.2.2.1 4 (v := .int .i64 c1.k) rfl
    have z5 := cell_atD HA.out.2.2.2.2.2.2.1 5 (v := .slice d3 c1.M.length s3) rfl
    have z6 := cell_atD HA.out.2.2.2.2.2.2.1 6 (v := .slice d4 c1.C.length s4) rfl
    have HN := Lib.hid hN
    clear hN
    go_region_held3 (fun w' => N ≤ w'.heap.size ∧ Below N w11 w' ∧ ∀ b o, b < N → w'.cell? ⟨b, o, none⟩ = w11.cell? ⟨b, o, none⟩) (first | with_reducible exact keeps_next (by assumption) (by assumption) | exact keepsV_start hNW) (first | (go_at_call 30; (with_reducible refine Calls.mono (m1 _ ?hk) ?_); (case hk => exact keepsV_two (by assumption)); rintro ev wz ⟨rfl, hzz⟩) | (go_at_call 18; (with_reducible refine Calls.mono (m2 _ ?hk) ?_); (case hk => exact keepsV_two (by assumption)); rintro ev wz ⟨rfl, hzz⟩) | (go_at_call 31; (with_reducible refine Calls.mono (m3 _ ?hk) ?_); (case hk => exact keepsV_two (by assumption)); rintro ev wz ⟨rfl, hzz⟩))
    rename_i hfin
    have hb12 := hfin.2.1
    have hz12 := hfin.1
    clear hfin m1 m2 m3 r0 r1 rf y0 y1 y2 y3 y4 y5 y6 z0 z1 z2 z3 z4 z5 z6
    have hVc := below_at hb12 hlV HA.out.2.2.1
    obtain ⟨r0, r1, rf⟩ := two_cellsR hVc
    have HB12 := Lib.hid (And.intro hb12 hz12)
    have cE := fun w => rend S1 w
    simp only [← HQ.out.1] at cE
    unfold rC at cE
    clear hVc hb12 hz12
    go_wp2_with fail
    refine Calls.mono (cE _) ?_
    rintro ev w13 ⟨rfl, hb13⟩
    have HB13 := Lib.hid (show Below N w11 w13 ∧ N ≤ w13.heap.size from ⟨HB12.out.1.trans (hb13.mono HB12.out.2), Nat.le_trans HB12.out.2 hb13.size⟩)
    clear r0 r1 rf hb13 HB12
    by_cases hE : E = 0
    · have e1 : t2 = t1 := by rw [HQ.out.2.1, if_neg (by simpa using hE)]
      have e2 : x2 = x1 := by rw [HQ.out.2.2.1, if_neg (by simpa using hE)]
      have e3 : c2 = c1 := by rw [HQ.out.2.2.2, if_neg (by simpa using hE)]
      subst hE e1 e2 e3
      clear cE
      go_wp2_with fail
      refine Calls.mono (awake13 _) ?_
      rintro ev w14 ⟨rfl, hb14⟩
      have hb1 : Below N w11 w14 := HB13.out.1.trans (hb14.mono HB13.out.2)
      have hXc := below_at hb1 (by rw [← HN.out]; exact lt_heap HA.out.1) HA.out.1
      have hYc := below_at hb1 hlV1 HA.out.2.2.2.1
      have p0 := cell_atD hXc 0 (v := .int .i64 t2) rfl
      have p1 := cell_atD hXc 1 (v := .int .i64 x2) rfl
      have p2 := cell_atD hXc 2 (v := .int .i64 c2.e) rfl
      have p3 := cell_atD hXc 3 (v := .int .i64 c2.b) rfl
      have p4 := cell_atD hXc 4 (v := .int .i64 c2.k) rfl
      have p5 := cell_atD hXc 5 (v := .slice g1 c2.M.length u1) rfl
      have p6 := cell_atD hXc 6 (v := .slice g2 c2.C.length u2) rfl
      have q0 := cell_atD hYc 0 (v := .int .i64 t2) rfl
      have q1 := cell_atD hYc 1 (v := .int .i64 x2) rfl
      have q2 := cell_atD hYc 2 (v := .int .i64 c2.e) rfl
      have q3 := cell_atD hYc 3 (v := .int .i64 c2.b) rfl
      have q4 := cell_atD hYc 4 (v := .int .i64 c2.k) rfl
      have q5 := cell_atD hYc 5 (v := .slice d1 c2.M.length s1) rfl
      have q6 := cell_atD hYc 6 (v := .slice d2 c2.C.length s2) rfl
      have hb1' : Below w11.heap.size w11 w14 := by rw [HN.out]; exact hb1
      have cs := rsameE t2 x2 c2 t2 x2 c2 g1 g2 d1 d2 u1 u2 s1 s2 w14 (HA.out.2.1.below hb1') (HA.out.2.2.2.2.1.below hb1')
      rw [sameE_me] at cs
      have HF := Lib.hid (HA.out.2.2.2.2.2.1.trans (hb1'.mono HA.out.2.2.2.2.2.1.size))
      have HFs := Lib.hid (Nat.le_trans HA.out.2.2.2.2.2.1.size hb1'.size)
      clear hb1 hb1' hXc hYc hb14
      go_wp2_with fail
      refine Calls.mono cs ?_
      rintro ev w15 ⟨rfl, hb15⟩
      have HG := Lib.hid (HF.out.trans (hb15.mono HFs.out))
      clear hb15 cs
      go_wp2_with fail
      go_ret
      exact ⟨ret_bool rfl, HG.out⟩
    · have e1 : t2 = 0 := by rw [HQ.out.2.1, if_pos hE]
      have e2 : x2 = 0 := by rw [HQ.out.2.2.1, if_pos hE]
      have e3 : c2 = ⟨0, 0, 0, [], []⟩ := by rw [HQ.out.2.2.2, if_pos hE]
      subst e1 e2 e3
      have v1 : (E != 0) = true := by simpa using hE
      have v2 : (E == 0) = false := by simpa using hE
      clear hE
      go_wp2_with fail
      refine Calls.mono (awake13 _) ?_
      rintro ev w14 ⟨rfl, hb14⟩
      have hb1 : Below N w11 w14 := HB13.out.1.trans (hb14.mono HB13.out.2)
      have hs1 : N ≤ w14.heap.size := Nat.le_trans HB13.out.2 hb14.size
      obtain ⟨r0, r1, rf⟩ := two_cellsR (below_at hb1 hlV HA.out.2.2.1)
      have HB14 := Lib.hid (And.intro hb1 hs1)
      clear hb1 hs1 hb14
      go_wp2_with fail
      refine Calls.mono (cE _) ?_
      rintro ev w15 ⟨rfl, hb15⟩
      have hb1 : Below N w11 w15 := HB14.out.1.trans (hb15.mono HB14.out.2)
      have hXc := below_at hb1 (by rw [← HN.out]; exact lt_heap HA.out.1) HA.out.1
      have p0 := cell_atD hXc 0 (v := .int .i64 0) rfl
      have p1 := cell_atD hXc 1 (v := .int .i64 0) rfl
      have p2 := cell_atD hXc 2 (v := .int .i64 0) rfl
      have p3 := cell_atD hXc 3 (v := .int .i64 0) rfl
      have p4 := cell_atD hXc 4 (v := .int .i64 0) rfl
      have p5 := cell_atD hXc 5 (v := .slice g1 0 u1) rfl
      have p6 := cell_atD hXc 6 (v := .slice g2 0 u2) rfl
      have hb1' : Below w11.heap.size w11 w15 := by rw [HN.out]; exact hb1
      have cs : Calls Try.prog 34 #[.agg #[.int .i64 0, .int .i64 0, .int .i64 0, .int .i64 0, .int .i64 0, .slice g1 0 u1, .slice g2 0 u2], .agg #[.int .i64 0, .int .i64 0, .int .i64 0, .int .i64 0, .int .i64 0, .slice none 0 0, .slice none 0 0]] w15 fun ev w' => ev = .returned (.bool true) ∧ Below w15.heap.size w15 w' := by
        have := esameE 0 0 ⟨0, 0, 0, [], []⟩ 0 0 ⟨0, 0, 0, [], []⟩ g1 g2 none none u1 u2 0 0 w15 (HA.out.2.1.below hb1') ⟨SR.nil_ _ _, SR.nil_ _ _⟩
        rw [sameE_me] at this
        exact this
      have HF := Lib.hid (HA.out.2.2.2.2.2.1.trans (hb1'.mono HA.out.2.2.2.2.2.1.size))
      have HFs := Lib.hid (Nat.le_trans HA.out.2.2.2.2.2.1.size hb1'.size)
      clear hb1 hb1' hXc hb15 cE r0 r1 rf HB14
      go_wp2_with fail
      refine Calls.mono cs ?_
      rintro ev w16 ⟨rfl, hb16⟩
      have HG := Lib.hid (HF.out.trans (hb16.mono HFs.out))
      clear hb16 cs
      go_wp2_with fail
      go_ret
      exact ⟨ret_bool rfl, HG.out⟩
end Go.Proofs.Ytlhjgpedmnjbpaa
