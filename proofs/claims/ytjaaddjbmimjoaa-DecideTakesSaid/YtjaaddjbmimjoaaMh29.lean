/-
  Several texts, laid together.
-/
import Derived.Test.YtjaaddjbmimjoaaMh28
/-
  tarnref12.TakeCmd.
-/

namespace Go.Proofs.Ytjaaddjbmimjoaa
open Go.RowKit
set_option linter.unusedVariables false
set_option linter.unusedSimpArgs false

def RDT (w : World) (K : Int) (c : CF) (S : RS) (ev : Ending) (w' : World) : Prop :=
  ∃ d1 s1 d2 s2, ev = .returned (.tuple #[rC S, .agg #[.int .i64 K, .int .i64 c.e, .int .i64 c.b, .int .i64 c.k, .slice d1 c.M.length s1, .slice d2 c.C.length s2]]) ∧ CFO c w.heap.size w' (.slice d1 c.M.length s1) (.slice d2 c.C.length s2) ∧ Below w.heap.size w w'
/-- the results' cells, the bytes that are left, what is kept -/
def Thr (Z : Array Value) (T : TypeId) (Nq : Nat) (w : World) (S : RS) (wx : World) : Prop :=
  wx.heap[w.heap.size + 1]? = some (.cells #[.string ⟨#[]⟩, .int .i64 0] 35) ∧ wx.heap[w.heap.size + 2]? = some (.cells Z T) ∧ wx.heap[Nq]? = some (.cells #[.string ⟨S.s.toArray⟩, .int .i64 S.e] 35) ∧ Below w.heap.size w wx ∧ w.heap.size + 3 ≤ Nq
theorem Thr.below {Z : Array Value} {T : TypeId} {Nq : Nat} {w wx wy : World} {S : RS} (h : Thr Z T Nq w S wx) (hb : Below wx.heap.size wx wy) : Thr Z T Nq w S wy :=
  ⟨below_at hb (lt_heap h.1) h.1, below_at hb (lt_heap h.2.1) h.2.1, below_at hb (lt_heap h.2.2.1) h.2.2.1, h.2.2.2.1.trans (hb.mono h.2.2.2.1.size), h.2.2.2.2⟩
theorem Thr.over {Z : Array Value} {T : TypeId} {Nq : Nat} {w wx wy : World} {S S' : RS} (h : Thr Z T Nq w S wx) (ho : Only Nq wx wy) (hq : wy.heap[Nq]? = some (.cells #[.string ⟨S'.s.toArray⟩, .int .i64 S'.e] 35)) : Thr Z T Nq w S' wy :=
  ⟨(ho.block _ (lt_heap h.1) (by have := h.2.2.2.2; omega)).trans h.1, (ho.block _ (lt_heap h.2.1) (by have := h.2.2.2.2; omega)).trans h.2.1, hq, h.2.2.2.1.trans (ho.below (by have := h.2.2.2.2; omega) h.2.2.2.1.size), h.2.2.2.2⟩
theorem Thr.past {Z : Array Value} {T : TypeId} {Nq Nx : Nat} {w wx wy : World} {S : RS} (h : Thr Z T Nq w S wx) (ho : Only Nx wx wy) (hx : Nq < Nx) : Thr Z T Nq w S wy :=
  ⟨(ho.block _ (lt_heap h.1) (by have := h.2.2.2.2; omega)).trans h.1, (ho.block _ (lt_heap h.2.1) (by have := h.2.2.2.2; omega)).trans h.2.1, (ho.block _ (lt_heap h.2.2.1) (by omega)).trans h.2.2.1, h.2.2.2.1.trans (ho.below (by have := h.2.2.2.2; omega) h.2.2.2.1.size), h.2.2.2.2⟩
theorem cmd_a (q : RS) (h : q.cmdS1.e ≠ 0) : q.cmdS = q.cmdS1 ∧ q.cmdK = 0 ∧ q.cmdV = ⟨0, 0, 0, [], []⟩ := by
  have h2 : q.cmdS = q.cmdS1 := by unfold RS.cmdS; split; rfl; exact fail_on h 3
  exact ⟨h2, by rw [RS.cmdK, h2, if_pos h], by rw [RS.cmdV, h2, if_pos h]⟩
theorem cmd_b (q : RS) (h : q.cmdS1.e = 0) (m : mayK (q.numV 2) q.cmdC = false) : q.cmdS = q.cmdS1.fail 3 ∧ q.cmdS.e ≠ 0 ∧ q.cmdK = 0 ∧ q.cmdV = ⟨0, 0, 0, [], []⟩ := by
  have he : (q.cmdS1.fail 3).e ≠ 0 := by rw [fail_off h 3 (by decide)]; decide
  have h2 : q.cmdS = q.cmdS1.fail 3 := by unfold RS.cmdS; rw [m, if_neg (by decide)]
  exact ⟨h2, by rw [h2]; exact he, by rw [RS.cmdK, h2, if_pos he], by rw [RS.cmdV, h2, if_pos he]⟩
theorem cmd_c (q : RS) (h : q.cmdS1.e = 0) (m : mayK (q.numV 2) q.cmdC = true) : q.cmdS = q.cmdS1 ∧ q.cmdK = q.numV 2 ∧ q.cmdV = q.cmdC := by
  have h2 : q.cmdS = q.cmdS1 := by unfold RS.cmdS; rw [m, if_pos rfl]
  exact ⟨h2, by rw [RS.cmdK, h2, if_neg (by simpa using h)], by rw [RS.cmdV, h2, if_neg (by simpa using h)]⟩
def MidV (Nq Nx : Nat) (w : World) (K : Nat) (c : CF) (S : RS) (wx : World) : Prop :=
  Thr #[.int .i64 0, .int .i64 0, .int .i64 0, .int .i64 0, .slice none 0 0, .slice none 0 0] 26 Nq w S wx ∧ Nq < Nx ∧ ∃ a2 p2 a3 p3, wx.heap[Nx]? = some (.cells #[.int .i64 K, .int .i64 c.e, .int .i64 c.b, .int .i64 c.k, .slice a2 c.M.length p2, .slice a3 c.C.length p3] 26) ∧ CFO c (w.heap.size + 3) wx (.slice a2 c.M.length p2) (.slice a3 c.C.length p3)
set_option maxHeartbeats 6400000 in
set_option maxRecDepth 100000 in
theorem dtakeR (q : RS) (w : World) (hok : ROk q) (hl : q.s.length ≤ 1000000) :
    Calls Try.prog 12 #[rC q] w (RDT w q.cmdK q.cmdV q.cmdS) := by
  have k1 := hok.num 2
  have l1 := Nat.le_trans (numS_len q 2) hl
  have c1 : ∀ w, Calls Try.prog 56 #[rC q, .int .i64 2] w fun e w' => e = .returned (.tuple #[rC (q.numS 2), .int .i64 (q.numV 2 : Nat)]) ∧ Below w.heap.size w w' := fun w => rintG q 2 w (by decide) (by decide) hok hl
  have c2 : ∀ w, Calls Try.prog 56 #[rC (q.numS 2), .int .i64 1048576] w fun e w' => e = .returned (.tuple #[rC ((q.numS 2).numS 1048576), .int .i64 ((q.numS 2).numV 1048576 : Nat)]) ∧ Below w.heap.size w w' := fun w => rintG _ 1048576 w (by decide) (by decide) k1 l1
  have c3 := fun w => ctakeR (q.numS 2) w k1 l1
  have ca := cmd_a q
  have cb := cmd_b q
  have cc := cmd_c q
  obtain ⟨S, hS⟩ : ∃ S, q.cmdS = S := ⟨_, rfl⟩
  obtain ⟨F, hF⟩ : ∃ F, q.cmdV = F := ⟨_, rfl⟩
  obtain ⟨FK, hFK⟩ : ∃ F, q.cmdK = F := ⟨_, rfl⟩
  obtain ⟨c, hc⟩ : ∃ c, q.cmdC = c := ⟨_, rfl⟩
  obtain ⟨s1, hs1⟩ : ∃ s1, q.cmdS1 = s1 := ⟨_, rfl⟩
  obtain ⟨q1, hq1⟩ : ∃ q1, q.numS 2 = q1 := ⟨_, rfl⟩
  obtain ⟨K, hK⟩ : ∃ K, q.numV 2 = K := ⟨_, rfl⟩
  have e0 : c = if K = 2 then ⟨q1.numV 1048576, 0, 0, [], []⟩ else q1.confV := by rw [← hc, RS.cmdC, hK, hq1]
  have e1 : s1 = if K = 2 then q1.numS 1048576 else q1.confS := by rw [← hs1, RS.cmdS1, hK, hq1]
  rw [hS, hF, hFK, hs1] at ca
  rw [hS, hF, hFK, hs1, hK, hc] at cb cc
  rw [hS, hF, hFK]
  simp only [hq1, hK] at c1 c2 c3
  have HA := Lib.hid (And.intro ca (And.intro cb (And.intro cc (And.intro e0 e1))))
  have C2 := Lib.hid c2
  have C3 := Lib.hid c3
  clear hS hF hFK hc hs1 hq1 hK e0 e1 ca cb cc hok hl k1 l1 c2 c3
  obtain ⟨s, er⟩ := q
  unfold rC at c1 ⊢
  simp only at c1 ⊢
  obtain ⟨h0, h1, h2, hb, hz⟩ := three_alloc w #[.string ⟨s.toArray⟩, .int .i64 er] #[.string ⟨#[]⟩, .int .i64 0] #[.int .i64 0, .int .i64 0, .int .i64 0, .int .i64 0, .slice none 0 0, .slice none 0 0] 35 35 26
  go_enter Try.func12, Try.ntmps12
  go_upto_region 1 with fail
  generalize ((w.alloc (.cells #[.string ⟨s.toArray⟩, .int .i64 er] 35)).alloc (.cells #[.string ⟨#[]⟩, .int .i64 0] 35)).alloc (.cells #[.int .i64 0, .int .i64 0, .int .i64 0, .int .i64 0, .slice none 0 0, .slice none 0 0] 26) = w1 at *
  have c0 := cell_atD h0 0 (v := .string ⟨s.toArray⟩) rfl
  have c01 := cell_atD h0 1 (v := .int .i64 er) rfl
  have H1 := Lib.hid (And.intro h1 (And.intro h2 (And.intro hb hz)))
  clear h0 h1 h2 hb hz
  go_wp2_with fail
  refine Calls.mono (c1 w1) ?_
  rintro ev w2 ⟨rfl, hb2⟩
  obtain ⟨h1, h2, hb, hz⟩ := H1.out
  have hz2 : w.heap.size + 3 ≤ w2.heap.size := by have := hb2.size; omega
  have hP := heap_alloc_self w2 (.cells #[.string ⟨q1.s.toArray⟩, .int .i64 q1.e] 35)
  have hb23 : Below w2.heap.size w2 (w2.alloc (.cells #[.string ⟨q1.s.toArray⟩, .int .i64 q1.e] 35)) := (Below.refl _ _).alloc (Nat.le_refl _) _
  have HT := Lib.hid (And.intro (show Thr #[.int .i64 0, .int .i64 0, .int .i64 0, .int .i64 0, .slice none 0 0, .slice none 0 0] 26 w2.heap.size w q1 (w2.alloc (.cells #[.string ⟨q1.s.toArray⟩, .int .i64 q1.e] 35)) from
    ⟨below_at (hb2.trans (hb23.mono hb2.size)) (lt_heap h1) h1, below_at (hb2.trans (hb23.mono hb2.size)) (lt_heap h2) h2, hP, hb.trans ((hb2.trans (hb23.mono hb2.size)).mono hb.size), hz2⟩) (show w2.heap.size < (w2.alloc (.cells #[.string ⟨q1.s.toArray⟩, .int .i64 q1.e] 35)).heap.size by simp))
  clear h1 h2 hb hz hb2 hz2 hP hb23 H1 c0 c01 c1
  go_upto_region 2 with fail
  generalize w2.alloc (.cells #[.string ⟨q1.s.toArray⟩, .int .i64 q1.e] 35) = w3 at *
  obtain ⟨Nq, hNq⟩ : ∃ N, w2.heap.size = N := ⟨_, rfl⟩
  rw [hNq] at HT
  try rw [hNq]
  clear hNq
  have hP := heap_alloc_self w3 (.cells #[.int .i64 K, .int .i64 0, .int .i64 0, .int .i64 0, .slice none 0 0, .slice none 0 0] 26)
  have hb34 : Below w3.heap.size w3 (w3.alloc (.cells #[.int .i64 K, .int .i64 0, .int .i64 0, .int .i64 0, .slice none 0 0, .slice none 0 0] 26)) := (Below.refl _ _).alloc (Nat.le_refl _) _
  have H4 := Lib.hid (And.intro (HT.out.1.below hb34) (And.intro HT.out.2 hP))
  clear hP hb34 HT
  go_upto_region 3 with fail
  generalize w3.alloc (.cells #[.int .i64 K, .int .i64 0, .int .i64 0, .int .i64 0, .slice none 0 0, .slice none 0 0] 26) = w4' at *
  obtain ⟨Nx, hNx⟩ : ∃ N, w3.heap.size = N := ⟨_, rfl⟩
  rw [hNx] at H4
  try rw [hNx]
  clear hNx
  obtain ⟨tb, htb⟩ : ∃ tb, ((K : Int) == 2) = tb := ⟨_, rfl⟩
  go_upto_if 15 with fail
  obtain ⟨b0, b1, bf⟩ := two_cellsD H4.out.1.2.2.1
  go_cut [] (fun wx => MidV Nq Nx w K c s1 wx)
  case first =>
    by_cases h2 : K = 2
    · subst h2
      obtain rfl : tb = true := by rw [← htb]; rfl
      have ci := C2.out w4'
      obtain ⟨E, hE⟩ : ∃ E, (q1.numV 1048576 : Int) = E := ⟨_, rfl⟩
      have hcE : c = ⟨E, 0, 0, [], []⟩ := by rw [HA.out.2.2.2.1, if_pos rfl, hE]
      have hs1 : s1 = q1.numS 1048576 := by rw [HA.out.2.2.2.2, if_pos rfl]
      rw [← hs1, hE] at ci
      unfold rC at ci
      have HC := Lib.hid hcE
      clear hE hcE hs1 htb C2 C3
      go_wp2_with fail
      refine Calls.mono ci ?_
      rintro ev w4 ⟨rfl, hb4⟩
      have HT4 := H4.out.1.below hb4
      have hx4 := below_at hb4 (lt_heap H4.out.2.2) H4.out.2.2
      have hqx := H4.out.2.1
      have n1 : Nq ≠ Nx := by omega
      have n2 := n1.symm
      clear b0 b1 bf ci hb4
      obtain ⟨b0, b1, bf⟩ := two_cellsD HT4.2.2.1
      have xf : ∀ j, w4.frozen? ⟨Nx, j, none⟩ = false := fun j => by simp [World.frozen?, hx4]
      have x1 := cell_atD hx4 1 (v := .int .i64 0) rfl
      have s1' : (w4.setCell ⟨Nq, 0, none⟩ (.string ⟨s1.s.toArray⟩)).heap[Nq]? = some (.cells #[.string ⟨s1.s.toArray⟩, .int .i64 q1.e] 35) := heap_set_self HT4.2.2.1 0 _
      have s2 : ((w4.setCell ⟨Nq, 0, none⟩ (.string ⟨s1.s.toArray⟩)).setCell ⟨Nq, 1, none⟩ (.int .i64 s1.e)).heap[Nq]? = some (.cells #[.string ⟨s1.s.toArray⟩, .int .i64 s1.e] 35) := heap_set_self s1' 1 _
      have sO : Only (Nq) w4 ((w4.setCell ⟨Nq, 0, none⟩ (.string ⟨s1.s.toArray⟩)).setCell ⟨Nq, 1, none⟩ (.int .i64 s1.e)) := ((Only.refl _ _).set 0 _).set 1 _
      have hx5 := (sO.block Nx (lt_heap hx4) (by omega)).trans hx4
      have g1 : (((w4.setCell ⟨Nq, 0, none⟩ (.string ⟨s1.s.toArray⟩)).setCell ⟨Nq, 1, none⟩ (.int .i64 s1.e)).setCell ⟨Nx, 1, none⟩ (.int .i64 E)).heap[Nx]? = some (.cells #[.int .i64 (2 : Nat), .int .i64 E, .int .i64 0, .int .i64 0, .slice none 0 0, .slice none 0 0] 26) := heap_set_self hx5 1 _
      have gO : Only (Nx) ((w4.setCell ⟨Nq, 0, none⟩ (.string ⟨s1.s.toArray⟩)).setCell ⟨Nq, 1, none⟩ (.int .i64 s1.e)) (((w4.setCell ⟨Nq, 0, none⟩ (.string ⟨s1.s.toArray⟩)).setCell ⟨Nq, 1, none⟩ (.int .i64 s1.e)).setCell ⟨Nx, 1, none⟩ (.int .i64 E)) := (Only.refl _ _).set 1 _
      have x51 := cell_atD hx5 1 (v := .int .i64 0) rfl
      have xf5 : ∀ j, ((w4.setCell ⟨Nq, 0, none⟩ (.string ⟨s1.s.toArray⟩)).setCell ⟨Nq, 1, none⟩ (.int .i64 s1.e)).frozen? ⟨Nx, j, none⟩ = false := fun j => by simp [World.frozen?, hx5]
      have HM := Lib.hid (show MidV Nq Nx w 2 c s1 (((w4.setCell ⟨Nq, 0, none⟩ (.string ⟨s1.s.toArray⟩)).setCell ⟨Nq, 1, none⟩ (.int .i64 s1.e)).setCell ⟨Nx, 1, none⟩ (.int .i64 E)) from by
        rw [HC.out]
        exact ⟨(HT4.over sO s2).past gO hqx, hqx, none, 0, none, 0, g1, World.ownsRow_nil _ _ _ _, World.ownsRow_nil _ _ _ _⟩)
      clear HT4 hx4 s1' s2 sO hx5 g1 gO hqx
      go_wp2_with fail
      go_meet
      exact HM.out
    · have h2i : ¬ ((K : Int) = 2) := by omega
      obtain rfl : tb = false := by rw [← htb]; simpa using h2i
      have ci := C3.out w4'
      have hcE : c = q1.confV := by rw [HA.out.2.2.2.1, if_neg h2]
      have hs1 : s1 = q1.confS := by rw [HA.out.2.2.2.2, if_neg h2]
      rw [← hcE, ← hs1] at ci
      unfold rC at ci
      clear hcE hs1 htb C2 C3 h2i
      go_wp2_with fail
      refine Calls.mono ci ?_
      rintro ev w4 ⟨a2, p2, a3, p3, rfl, hL4, hb4⟩
      unfold rC
      have HT4 := H4.out.1.below hb4
      have hx4 := below_at hb4 (lt_heap H4.out.2.2) H4.out.2.2
      have hz4 := lt_heap H4.out.2.2
      have hqx := H4.out.2.1
      have n1 : Nq ≠ Nx := by omega
      have n2 := n1.symm
      clear b0 b1 bf ci hb4
      obtain ⟨b0, b1, bf⟩ := two_cellsD HT4.2.2.1
      have xf : ∀ j, w4.frozen? ⟨Nx, j, none⟩ = false := fun j => by simp [World.frozen?, hx4]
      have s1' : (w4.setCell ⟨Nq, 0, none⟩ (.string ⟨s1.s.toArray⟩)).heap[Nq]? = some (.cells #[.string ⟨s1.s.toArray⟩, .int .i64 q1.e] 35) := heap_set_self HT4.2.2.1 0 _
      have s2 : ((w4.setCell ⟨Nq, 0, none⟩ (.string ⟨s1.s.toArray⟩)).setCell ⟨Nq, 1, none⟩ (.int .i64 s1.e)).heap[Nq]? = some (.cells #[.string ⟨s1.s.toArray⟩, .int .i64 s1.e] 35) := heap_set_self s1' 1 _
      have sO : Only (Nq) w4 ((w4.setCell ⟨Nq, 0, none⟩ (.string ⟨s1.s.toArray⟩)).setCell ⟨Nq, 1, none⟩ (.int .i64 s1.e)) := ((Only.refl _ _).set 0 _).set 1 _
      have hx5 := (sO.block Nx (lt_heap hx4) (by omega)).trans hx4
      have x0 := cell_atD hx5 0 (v := .int .i64 K) rfl
      have x1 := cell_atD hx5 1 (v := .int .i64 0) rfl
      have x2 := cell_atD hx5 2 (v := .int .i64 0) rfl
      have x3 := cell_atD hx5 3 (v := .int .i64 0) rfl
      have x4 := cell_atD hx5 4 (v := .slice none 0 0) rfl
      have x5 := cell_atD hx5 5 (v := .slice none 0 0) rfl
      have xf5 : ∀ j, ((w4.setCell ⟨Nq, 0, none⟩ (.string ⟨s1.s.toArray⟩)).setCell ⟨Nq, 1, none⟩ (.int .i64 s1.e)).frozen? ⟨Nx, j, none⟩ = false := fun j => by simp [World.frozen?, hx5]
      have g1 : (((w4.setCell ⟨Nq, 0, none⟩ (.string ⟨s1.s.toArray⟩)).setCell ⟨Nq, 1, none⟩ (.int .i64 s1.e)).setCell ⟨Nx, 1, none⟩ (.int .i64 c.e)).heap[Nx]? = some (.cells #[.int .i64 K, .int .i64 c.e, .int .i64 0, .int .i64 0, .slice none 0 0, .slice none 0 0] 26) := heap_set_self hx5 1 _
      have g2 : ((((w4.setCell ⟨Nq, 0, none⟩ (.string ⟨s1.s.toArray⟩)).setCell ⟨Nq, 1, none⟩ (.int .i64 s1.e)).setCell ⟨Nx, 1, none⟩ (.int .i64 c.e)).setCell ⟨Nx, 2, none⟩ (.int .i64 c.b)).heap[Nx]? = some (.cells #[.int .i64 K, .int .i64 c.e, .int .i64 c.b, .int .i64 0, .slice none 0 0, .slice none 0 0] 26) := heap_set_self g1 2 _
      have g3 : (((((w4.setCell ⟨Nq, 0, none⟩ (.string ⟨s1.s.toArray⟩)).setCell ⟨Nq, 1, none⟩ (.int .i64 s1.e)).setCell ⟨Nx, 1, none⟩ (.int .i64 c.e)).setCell ⟨Nx, 2, none⟩ (.int .i64 c.b)).setCell ⟨Nx, 3, none⟩ (.int .i64 c.k)).heap[Nx]? = some (.cells #[.int .i64 K, .int .i64 c.e, .int .i64 c.b, .int .i64 c.k, .slice none 0 0, .slice none 0 0] 26) := heap_set_self g2 3 _
      have g4 : ((((((w4.setCell ⟨Nq, 0, none⟩ (.string ⟨s1.s.toArray⟩)).setCell ⟨Nq, 1, none⟩ (.int .i64 s1.e)).setCell ⟨Nx, 1, none⟩ (.int .i64 c.e)).setCell ⟨Nx, 2, none⟩ (.int .i64 c.b)).setCell ⟨Nx, 3, none⟩ (.int .i64 c.k)).setCell ⟨Nx, 4, none⟩ (.slice a2 c.M.length p2)).heap[Nx]? = some (.cells #[.int .i64 K, .int .i64 c.e, .int .i64 c.b, .int .i64 c.k, .slice a2 c.M.length p2, .slice none 0 0] 26) := heap_set_self g3 4 _
      have g5 : (((((((w4.setCell ⟨Nq, 0, none⟩ (.string ⟨s1.s.toArray⟩)).setCell ⟨Nq, 1, none⟩ (.int .i64 s1.e)).setCell ⟨Nx, 1, none⟩ (.int .i64 c.e)).setCell ⟨Nx, 2, none⟩ (.int .i64 c.b)).setCell ⟨Nx, 3, none⟩ (.int .i64 c.k)).setCell ⟨Nx, 4, none⟩ (.slice a2 c.M.length p2)).setCell ⟨Nx, 5, none⟩ (.slice a3 c.C.length p3)).heap[Nx]? = some (.cells #[.int .i64 K, .int .i64 c.e, .int .i64 c.b, .int .i64 c.k, .slice a2 c.M.length p2, .slice a3 c.C.length p3] 26) := heap_set_self g4 5 _
      have gO : Only (Nx) ((w4.setCell ⟨Nq, 0, none⟩ (.string ⟨s1.s.toArray⟩)).setCell ⟨Nq, 1, none⟩ (.int .i64 s1.e)) (((((((w4.setCell ⟨Nq, 0, none⟩ (.string ⟨s1.s.toArray⟩)).setCell ⟨Nq, 1, none⟩ (.int .i64 s1.e)).setCell ⟨Nx, 1, none⟩ (.int .i64 c.e)).setCell ⟨Nx, 2, none⟩ (.int .i64 c.b)).setCell ⟨Nx, 3, none⟩ (.int .i64 c.k)).setCell ⟨Nx, 4, none⟩ (.slice a2 c.M.length p2)).setCell ⟨Nx, 5, none⟩ (.slice a3 c.C.length p3)) := (((((Only.refl _ _).set 1 _).set 2 _).set 3 _).set 4 _).set 5 _
      have HM := Lib.hid (show MidV Nq Nx w K c s1 (((((((w4.setCell ⟨Nq, 0, none⟩ (.string ⟨s1.s.toArray⟩)).setCell ⟨Nq, 1, none⟩ (.int .i64 s1.e)).setCell ⟨Nx, 1, none⟩ (.int .i64 c.e)).setCell ⟨Nx, 2, none⟩ (.int .i64 c.b)).setCell ⟨Nx, 3, none⟩ (.int .i64 c.k)).setCell ⟨Nx, 4, none⟩ (.slice a2 c.M.length p2)).setCell ⟨Nx, 5, none⟩ (.slice a3 c.C.length p3)) from
        ⟨(HT4.over sO s2).past gO hqx, hqx, a2, p2, a3, p3, g5, CFO.base ((hL4.only sO (by omega)).only gO (by omega)) (by have := HT4.2.2.2.2; omega)⟩)
      clear HT4 hx4 s1' s2 sO hx5 g1 g2 g3 g4 g5 gO hqx hL4 hz4
      go_wp2_with fail
      go_meet
      exact HM.out
  case rest =>
    clear b0 b1 bf htb H4 C2 C3
    obtain ⟨W7, hW7⟩ : ∃ W, wc = W := ⟨_, rfl⟩
    rw [hW7] at hcut
    rw [hW7]
    clear hW7
    obtain ⟨w7, rfl⟩ : ∃ x, x = W7 := ⟨_, rfl⟩
    obtain ⟨hT7, hqx, a2, p2, a3, p3, hx7, hL7⟩ := hcut
    obtain ⟨b0, b1, bf⟩ := two_cellsD hT7.2.2.1
    have x0 := cell_atD hx7 0 (v := .int .i64 K) rfl
    have x1 := cell_atD hx7 1 (v := .int .i64 c.e) rfl
    have x2 := cell_atD hx7 2 (v := .int .i64 c.b) rfl
    have x3 := cell_atD hx7 3 (v := .int .i64 c.k) rfl
    have x4 := cell_atD hx7 4 (v := .slice a2 c.M.length p2) rfl
    have x5 := cell_atD hx7 5 (v := .slice a3 c.C.length p3) rfl
    have H7 := Lib.hid (And.intro hT7 (And.intro hqx (And.intro hx7 hL7)))
    clear hT7 hqx hx7 hL7
    by_cases hE : s1.e = 0
    · have u1 : (s1.e == 0) = true := by simpa using hE
      have hE0 := Lib.hid hE
      have cm := rmayK K c a2 a3 p2 p3 w7 (H7.out.2.2.2.at_)
      obtain ⟨mb, hmb⟩ : ∃ mb, mayK K c = mb := ⟨_, rfl⟩
      rw [hmb] at cm
      have HMB := Lib.hid hmb
      clear hmb hE
      go_wp2_with fail
      refine Calls.mono cm ?_
      rintro ev w8 ⟨rfl, hb8⟩
      have H8 := Lib.hid (And.intro (H7.out.1.below hb8) (And.intro H7.out.2.1 (And.intro (below_at hb8 (lt_heap H7.out.2.2.1) H7.out.2.2.1) (H7.out.2.2.2.below hb8))))
      clear b0 b1 bf x0 x1 x2 x3 x4 x5 cm hb8 H7
      obtain ⟨b0, b1, bf⟩ := two_cellsD H8.out.1.2.2.1
      cases mb
      · obtain ⟨hSf, hSe, hK0, hFz⟩ := HA.out.2.1 hE0.out HMB.out
        have cf := rfail s1 3 w8
        rw [← hSf] at cf
        have HFz := Lib.hid (And.intro hK0 hFz)
        have u2 : (S.e != 0) = true := by simpa using hSe
        unfold rC at cf
        clear hSf hFz hK0 hSe
        go_wp2_with fail
        refine Calls.mono cf ?_
        rintro ev w9' ⟨rfl, hb9⟩
        have H9' := H8.out.1.below hb9
        clear b0 b1 bf cf hb9
        obtain ⟨b0, b1, bf⟩ := two_cellsD H9'.2.2.1
        have s1' : (w9'.setCell ⟨Nq, 0, none⟩ (.string ⟨S.s.toArray⟩)).heap[Nq]? = some (.cells #[.string ⟨S.s.toArray⟩, .int .i64 s1.e] 35) := heap_set_self H9'.2.2.1 0 _
        have s2 : ((w9'.setCell ⟨Nq, 0, none⟩ (.string ⟨S.s.toArray⟩)).setCell ⟨Nq, 1, none⟩ (.int .i64 S.e)).heap[Nq]? = some (.cells #[.string ⟨S.s.toArray⟩, .int .i64 S.e] 35) := heap_set_self s1' 1 _
        have sO : Only (Nq) w9' ((w9'.setCell ⟨Nq, 0, none⟩ (.string ⟨S.s.toArray⟩)).setCell ⟨Nq, 1, none⟩ (.int .i64 S.e)) := ((Only.refl _ _).set 0 _).set 1 _
        have H9 := Lib.hid (H9'.over sO s2)
        clear H9' s1' s2 sO
        go_upto_region 8 with fail
        clear b0 b1 bf
        generalize ((w9'.setCell ⟨Nq, 0, none⟩ (.string ⟨S.s.toArray⟩)).setCell ⟨Nq, 1, none⟩ (.int .i64 S.e)) = w9 at *
        obtain ⟨b0, b1, bf⟩ := two_cellsD H9.out.2.2.1
        have z0 := cell_atD H9.out.1 0 (v := .string ⟨#[]⟩) rfl
        have z1 := cell_atD H9.out.1 1 (v := .int .i64 0) rfl
        have zf : ∀ j, w9.frozen? ⟨w.heap.size + 1, j, none⟩ = false := fun j => by simp [World.frozen?, H9.out.1]
        have x0 := cell_atD H9.out.2.1 0 (v := .int .i64 0) rfl
        have x1 := cell_atD H9.out.2.1 1 (v := .int .i64 0) rfl
        have x2 := cell_atD H9.out.2.1 2 (v := .int .i64 0) rfl
        have x3 := cell_atD H9.out.2.1 3 (v := .int .i64 0) rfl
        have x4 := cell_atD H9.out.2.1 4 (v := .slice none 0 0) rfl
        have x5 := cell_atD H9.out.2.1 5 (v := .slice none 0 0) rfl
        have xf : ∀ j, w9.frozen? ⟨w.heap.size + 2, j, none⟩ = false := fun j => by simp [World.frozen?, H9.out.2.1]
        have A1 : (w9.setCell ⟨w.heap.size + 1, 0, none⟩ (.string ⟨S.s.toArray⟩)).heap[w.heap.size + 1]? = some (.cells #[.string ⟨S.s.toArray⟩, .int .i64 0] 35) := heap_set_self H9.out.1 0 _
        have A2 : ((w9.setCell ⟨w.heap.size + 1, 0, none⟩ (.string ⟨S.s.toArray⟩)).setCell ⟨w.heap.size + 1, 1, none⟩ (.int .i64 S.e)).heap[w.heap.size + 1]? = some (.cells #[.string ⟨S.s.toArray⟩, .int .i64 S.e] 35) := heap_set_self A1 1 _
        have AO : Only (w.heap.size + 1) w9 ((w9.setCell ⟨w.heap.size + 1, 0, none⟩ (.string ⟨S.s.toArray⟩)).setCell ⟨w.heap.size + 1, 1, none⟩ (.int .i64 S.e)) := ((Only.refl _ _).set 0 _).set 1 _
        have hC1 := (AO.block _ (lt_heap H9.out.2.1) (by omega)).trans H9.out.2.1
        have g1 : (((w9.setCell ⟨w.heap.size + 1, 0, none⟩ (.string ⟨S.s.toArray⟩)).setCell ⟨w.heap.size + 1, 1, none⟩ (.int .i64 S.e)).setCell ⟨w.heap.size + 2, 0, none⟩ (.int .i64 0)).heap[w.heap.size + 2]? = some (.cells #[.int .i64 0, .int .i64 0, .int .i64 0, .int .i64 0, .slice none 0 0, .slice none 0 0] 26) := heap_set_self hC1 0 _
        have g2 : ((((w9.setCell ⟨w.heap.size + 1, 0, none⟩ (.string ⟨S.s.toArray⟩)).setCell ⟨w.heap.size + 1, 1, none⟩ (.int .i64 S.e)).setCell ⟨w.heap.size + 2, 0, none⟩ (.int .i64 0)).setCell ⟨w.heap.size + 2, 1, none⟩ (.int .i64 0)).heap[w.heap.size + 2]? = some (.cells #[.int .i64 0, .int .i64 0, .int .i64 0, .int .i64 0, .slice none 0 0, .slice none 0 0] 26) := heap_set_self g1 1 _
        have g3 : (((((w9.setCell ⟨w.heap.size + 1, 0, none⟩ (.string ⟨S.s.toArray⟩)).setCell ⟨w.heap.size + 1, 1, none⟩ (.int .i64 S.e)).setCell ⟨w.heap.size + 2, 0, none⟩ (.int .i64 0)).setCell ⟨w.heap.size + 2, 1, none⟩ (.int .i64 0)).setCell ⟨w.heap.size + 2, 2, none⟩ (.int .i64 0)).heap[w.heap.size + 2]? = some (.cells #[.int .i64 0, .int .i64 0, .int .i64 0, .int .i64 0, .slice none 0 0, .slice none 0 0] 26) := heap_set_self g2 2 _
        have g4 : ((((((w9.setCell ⟨w.heap.size + 1, 0, none⟩ (.string ⟨S.s.toArray⟩)).setCell ⟨w.heap.size + 1, 1, none⟩ (.int .i64 S.e)).setCell ⟨w.heap.size + 2, 0, none⟩ (.int .i64 0)).setCell ⟨w.heap.size + 2, 1, none⟩ (.int .i64 0)).setCell ⟨w.heap.size + 2, 2, none⟩ (.int .i64 0)).setCell ⟨w.heap.size + 2, 3, none⟩ (.int .i64 0)).heap[w.heap.size + 2]? = some (.cells #[.int .i64 0, .int .i64 0, .int .i64 0, .int .i64 0, .slice none 0 0, .slice none 0 0] 26) := heap_set_self g3 3 _
        have g5 : (((((((w9.setCell ⟨w.heap.size + 1, 0, none⟩ (.string ⟨S.s.toArray⟩)).setCell ⟨w.heap.size + 1, 1, none⟩ (.int .i64 S.e)).setCell ⟨w.heap.size + 2, 0, none⟩ (.int .i64 0)).setCell ⟨w.heap.size + 2, 1, none⟩ (.int .i64 0)).setCell ⟨w.heap.size + 2, 2, none⟩ (.int .i64 0)).setCell ⟨w.heap.size + 2, 3, none⟩ (.int .i64 0)).setCell ⟨w.heap.size + 2, 4, none⟩ (.slice none 0 0)).heap[w.heap.size + 2]? = some (.cells #[.int .i64 0, .int .i64 0, .int .i64 0, .int .i64 0, .slice none 0 0, .slice none 0 0] 26) := heap_set_self g4 4 _
        have g6 : ((((((((w9.setCell ⟨w.heap.size + 1, 0, none⟩ (.string ⟨S.s.toArray⟩)).setCell ⟨w.heap.size + 1, 1, none⟩ (.int .i64 S.e)).setCell ⟨w.heap.size + 2, 0, none⟩ (.int .i64 0)).setCell ⟨w.heap.size + 2, 1, none⟩ (.int .i64 0)).setCell ⟨w.heap.size + 2, 2, none⟩ (.int .i64 0)).setCell ⟨w.heap.size + 2, 3, none⟩ (.int .i64 0)).setCell ⟨w.heap.size + 2, 4, none⟩ (.slice none 0 0)).setCell ⟨w.heap.size + 2, 5, none⟩ (.slice none 0 0)).heap[w.heap.size + 2]? = some (.cells #[.int .i64 0, .int .i64 0, .int .i64 0, .int .i64 0, .slice none 0 0, .slice none 0 0] 26) := heap_set_self g5 5 _
        have gO : Only (w.heap.size + 2) ((w9.setCell ⟨w.heap.size + 1, 0, none⟩ (.string ⟨S.s.toArray⟩)).setCell ⟨w.heap.size + 1, 1, none⟩ (.int .i64 S.e)) ((((((((w9.setCell ⟨w.heap.size + 1, 0, none⟩ (.string ⟨S.s.toArray⟩)).setCell ⟨w.heap.size + 1, 1, none⟩ (.int .i64 S.e)).setCell ⟨w.heap.size + 2, 0, none⟩ (.int .i64 0)).setCell ⟨w.heap.size + 2, 1, none⟩ (.int .i64 0)).setCell ⟨w.heap.size + 2, 2, none⟩ (.int .i64 0)).setCell ⟨w.heap.size + 2, 3, none⟩ (.int .i64 0)).setCell ⟨w.heap.size + 2, 4, none⟩ (.slice none 0 0)).setCell ⟨w.heap.size + 2, 5, none⟩ (.slice none 0 0)) := ((((((Only.refl _ _).set 0 _).set 1 _).set 2 _).set 3 _).set 4 _).set 5 _
        have GI := Lib.hid (And.intro ((gO.block _ (lt_heap A2) (by omega)).trans A2) g6)
        have GO := Lib.hid (And.intro AO gO)
        clear A1 A2 AO hC1 g1 g2 g3 g4 g5 g6 gO
        go_wp2_with fail
        generalize ((((((((w9.setCell ⟨w.heap.size + 1, 0, none⟩ (.string ⟨S.s.toArray⟩)).setCell ⟨w.heap.size + 1, 1, none⟩ (.int .i64 S.e)).setCell ⟨w.heap.size + 2, 0, none⟩ (.int .i64 0)).setCell ⟨w.heap.size + 2, 1, none⟩ (.int .i64 0)).setCell ⟨w.heap.size + 2, 2, none⟩ (.int .i64 0)).setCell ⟨w.heap.size + 2, 3, none⟩ (.int .i64 0)).setCell ⟨w.heap.size + 2, 4, none⟩ (.slice none 0 0)).setCell ⟨w.heap.size + 2, 5, none⟩ (.slice none 0 0)) = wf at *
        generalize ((w9.setCell ⟨w.heap.size + 1, 0, none⟩ (.string ⟨S.s.toArray⟩)).setCell ⟨w.heap.size + 1, 1, none⟩ (.int .i64 S.e)) = wm at *
        obtain ⟨fi, fj⟩ := GI.out
        have y0 := cell_atD fi 0 (v := .string ⟨S.s.toArray⟩) rfl
        have y1 := cell_atD fi 1 (v := .int .i64 S.e) rfl
        have t0 := cell_atD fj 0 (v := .int .i64 0) rfl
        have t1 := cell_atD fj 1 (v := .int .i64 0) rfl
        have t2 := cell_atD fj 2 (v := .int .i64 0) rfl
        have t3 := cell_atD fj 3 (v := .int .i64 0) rfl
        have t4 := cell_atD fj 4 (v := .slice none 0 0) rfl
        have t5 := cell_atD fj 5 (v := .slice none 0 0) rfl
        clear fi fj
        refine bodyPost_ret (v := .tuple #[.agg #[.string ⟨S.s.toArray⟩, .int .i64 S.e], .agg #[.int .i64 0, .int .i64 0, .int .i64 0, .int .i64 0, .slice none 0 0, .slice none 0 0]]) (by simp [results, Try.results12, go_sem, y0, y1, t0, t1, t2, t3, t4, t5]) rfl ?_
        refine ⟨none, 0, none, 0, by rw [HFz.out.1, HFz.out.2]; rfl, by rw [HFz.out.2]; exact ⟨World.ownsRow_nil _ _ _ _, World.ownsRow_nil _ _ _ _⟩, (H9.out.2.2.2.1.trans (GO.out.1.below (by omega) H9.out.2.2.2.1.size)).trans (GO.out.2.below (by omega) (Nat.le_trans H9.out.2.2.2.1.size GO.out.1.size))⟩
      · obtain ⟨hSf, hK0, hFz⟩ := HA.out.2.2.1 hE0.out HMB.out
        subst hSf hFz hK0
        have u2 : (S.e != 0) = false := by simpa using hE0.out
        have z0 := cell_atD H8.out.1.1 0 (v := .string ⟨#[]⟩) rfl
        have z1 := cell_atD H8.out.1.1 1 (v := .int .i64 0) rfl
        have zf : ∀ j, w8.frozen? ⟨w.heap.size + 1, j, none⟩ = false := fun j => by simp [World.frozen?, H8.out.1.1]
        have x0 := cell_atD H8.out.1.2.1 0 (v := .int .i64 0) rfl
        have x1 := cell_atD H8.out.1.2.1 1 (v := .int .i64 0) rfl
        have x2 := cell_atD H8.out.1.2.1 2 (v := .int .i64 0) rfl
        have x3 := cell_atD H8.out.1.2.1 3 (v := .int .i64 0) rfl
        have x4 := cell_atD H8.out.1.2.1 4 (v := .slice none 0 0) rfl
        have x5 := cell_atD H8.out.1.2.1 5 (v := .slice none 0 0) rfl
        have xf : ∀ j, w8.frozen? ⟨w.heap.size + 2, j, none⟩ = false := fun j => by simp [World.frozen?, H8.out.1.2.1]
        have d0 := cell_atD H8.out.2.2.1 0 (v := .int .i64 (K : Int)) rfl
        have d1 := cell_atD H8.out.2.2.1 1 (v := .int .i64 F.e) rfl
        have d2 := cell_atD H8.out.2.2.1 2 (v := .int .i64 F.b) rfl
        have d3 := cell_atD H8.out.2.2.1 3 (v := .int .i64 F.k) rfl
        have d4 := cell_atD H8.out.2.2.1 4 (v := .slice a2 F.M.length p2) rfl
        have d5 := cell_atD H8.out.2.2.1 5 (v := .slice a3 F.C.length p3) rfl
        have hq3 := H8.out.1.2.2.2.2
        have hqx := H8.out.2.1
        have n1 : Nq ≠ w.heap.size + 1 := by omega
        have n2 : Nq ≠ w.heap.size + 2 := by omega
        have n3 : Nx ≠ w.heap.size + 1 := by omega
        have n4 : Nx ≠ w.heap.size + 2 := by omega
        have m1 := n1.symm
        have m2 := n2.symm
        have m3 := n3.symm
        have m4 := n4.symm
        have A1 : (w8.setCell ⟨w.heap.size + 1, 0, none⟩ (.string ⟨S.s.toArray⟩)).heap[w.heap.size + 1]? = some (.cells #[.string ⟨S.s.toArray⟩, .int .i64 0] 35) := heap_set_self H8.out.1.1 0 _
        have A2 : ((w8.setCell ⟨w.heap.size + 1, 0, none⟩ (.string ⟨S.s.toArray⟩)).setCell ⟨w.heap.size + 1, 1, none⟩ (.int .i64 S.e)).heap[w.heap.size + 1]? = some (.cells #[.string ⟨S.s.toArray⟩, .int .i64 S.e] 35) := heap_set_self A1 1 _
        have AO : Only (w.heap.size + 1) w8 ((w8.setCell ⟨w.heap.size + 1, 0, none⟩ (.string ⟨S.s.toArray⟩)).setCell ⟨w.heap.size + 1, 1, none⟩ (.int .i64 S.e)) := ((Only.refl _ _).set 0 _).set 1 _
        have hC1 := (AO.block _ (lt_heap H8.out.1.2.1) (by omega)).trans H8.out.1.2.1
        have g1 : (((w8.setCell ⟨w.heap.size + 1, 0, none⟩ (.string ⟨S.s.toArray⟩)).setCell ⟨w.heap.size + 1, 1, none⟩ (.int .i64 S.e)).setCell ⟨w.heap.size + 2, 0, none⟩ (.int .i64 (K : Int))).heap[w.heap.size + 2]? = some (.cells #[.int .i64 (K : Int), .int .i64 0, .int .i64 0, .int .i64 0, .slice none 0 0, .slice none 0 0] 26) := heap_set_self hC1 0 _
        have g2 : ((((w8.setCell ⟨w.heap.size + 1, 0, none⟩ (.string ⟨S.s.toArray⟩)).setCell ⟨w.heap.size + 1, 1, none⟩ (.int .i64 S.e)).setCell ⟨w.heap.size + 2, 0, none⟩ (.int .i64 (K : Int))).setCell ⟨w.heap.size + 2, 1, none⟩ (.int .i64 F.e)).heap[w.heap.size + 2]? = some (.cells #[.int .i64 (K : Int), .int .i64 F.e, .int .i64 0, .int .i64 0, .slice none 0 0, .slice none 0 0] 26) := heap_set_self g1 1 _
        have g3 : (((((w8.setCell ⟨w.heap.size + 1, 0, none⟩ (.string ⟨S.s.toArray⟩)).setCell ⟨w.heap.size + 1, 1, none⟩ (.int .i64 S.e)).setCell ⟨w.heap.size + 2, 0, none⟩ (.int .i64 (K : Int))).setCell ⟨w.heap.size + 2, 1, none⟩ (.int .i64 F.e)).setCell ⟨w.heap.size + 2, 2, none⟩ (.int .i64 F.b)).heap[w.heap.size + 2]? = some (.cells #[.int .i64 (K : Int), .int .i64 F.e, .int .i64 F.b, .int .i64 0, .slice none 0 0, .slice none 0 0] 26) := heap_set_self g2 2 _
        have g4 : ((((((w8.setCell ⟨w.heap.size + 1, 0, none⟩ (.string ⟨S.s.toArray⟩)).setCell ⟨w.heap.size + 1, 1, none⟩ (.int .i64 S.e)).setCell ⟨w.heap.size + 2, 0, none⟩ (.int .i64 (K : Int))).setCell ⟨w.heap.size + 2, 1, none⟩ (.int .i64 F.e)).setCell ⟨w.heap.size + 2, 2, none⟩ (.int .i64 F.b)).setCell ⟨w.heap.size + 2, 3, none⟩ (.int .i64 F.k)).heap[w.heap.size + 2]? = some (.cells #[.int .i64 (K : Int), .int .i64 F.e, .int .i64 F.b, .int .i64 F.k, .slice none 0 0, .slice none 0 0] 26) := heap_set_self g3 3 _
        have g5 : (((((((w8.setCell ⟨w.heap.size + 1, 0, none⟩ (.string ⟨S.s.toArray⟩)).setCell ⟨w.heap.size + 1, 1, none⟩ (.int .i64 S.e)).setCell ⟨w.heap.size + 2, 0, none⟩ (.int .i64 (K : Int))).setCell ⟨w.heap.size + 2, 1, none⟩ (.int .i64 F.e)).setCell ⟨w.heap.size + 2, 2, none⟩ (.int .i64 F.b)).setCell ⟨w.heap.size + 2, 3, none⟩ (.int .i64 F.k)).setCell ⟨w.heap.size + 2, 4, none⟩ (.slice a2 F.M.length p2)).heap[w.heap.size + 2]? = some (.cells #[.int .i64 (K : Int), .int .i64 F.e, .int .i64 F.b, .int .i64 F.k, .slice a2 F.M.length p2, .slice none 0 0] 26) := heap_set_self g4 4 _
        have g6 : ((((((((w8.setCell ⟨w.heap.size + 1, 0, none⟩ (.string ⟨S.s.toArray⟩)).setCell ⟨w.heap.size + 1, 1, none⟩ (.int .i64 S.e)).setCell ⟨w.heap.size + 2, 0, none⟩ (.int .i64 (K : Int))).setCell ⟨w.heap.size + 2, 1, none⟩ (.int .i64 F.e)).setCell ⟨w.heap.size + 2, 2, none⟩ (.int .i64 F.b)).setCell ⟨w.heap.size + 2, 3, none⟩ (.int .i64 F.k)).setCell ⟨w.heap.size + 2, 4, none⟩ (.slice a2 F.M.length p2)).setCell ⟨w.heap.size + 2, 5, none⟩ (.slice a3 F.C.length p3)).heap[w.heap.size + 2]? = some (.cells #[.int .i64 (K : Int), .int .i64 F.e, .int .i64 F.b, .int .i64 F.k, .slice a2 F.M.length p2, .slice a3 F.C.length p3] 26) := heap_set_self g5 5 _
        have gO : Only (w.heap.size + 2) ((w8.setCell ⟨w.heap.size + 1, 0, none⟩ (.string ⟨S.s.toArray⟩)).setCell ⟨w.heap.size + 1, 1, none⟩ (.int .i64 S.e)) ((((((((w8.setCell ⟨w.heap.size + 1, 0, none⟩ (.string ⟨S.s.toArray⟩)).setCell ⟨w.heap.size + 1, 1, none⟩ (.int .i64 S.e)).setCell ⟨w.heap.size + 2, 0, none⟩ (.int .i64 (K : Int))).setCell ⟨w.heap.size + 2, 1, none⟩ (.int .i64 F.e)).setCell ⟨w.heap.size + 2, 2, none⟩ (.int .i64 F.b)).setCell ⟨w.heap.size + 2, 3, none⟩ (.int .i64 F.k)).setCell ⟨w.heap.size + 2, 4, none⟩ (.slice a2 F.M.length p2)).setCell ⟨w.heap.size + 2, 5, none⟩ (.slice a3 F.C.length p3)) := ((((((Only.refl _ _).set 0 _).set 1 _).set 2 _).set 3 _).set 4 _).set 5 _
        have GI := Lib.hid (And.intro ((gO.block _ (lt_heap A2) (by omega)).trans A2) g6)
        have GO := Lib.hid (And.intro AO gO)
        clear A1 A2 AO hC1 g1 g2 g3 g4 g5 g6 gO
        have A1 : (w8.setCell ⟨w.heap.size + 1, 0, none⟩ (.string ⟨S.s.toArray⟩)).heap[w.heap.size + 1]? = some (.cells #[.string ⟨S.s.toArray⟩, .int .i64 0] 35) := heap_set_self H8.out.1.1 0 _
        have A2 : ((w8.setCell ⟨w.heap.size + 1, 0, none⟩ (.string ⟨S.s.toArray⟩)).setCell ⟨w.heap.size + 1, 1, none⟩ (.int .i64 S.e)).heap[w.heap.size + 1]? = some (.cells #[.string ⟨S.s.toArray⟩, .int .i64 S.e] 35) := heap_set_self A1 1 _
        have AO : Only (w.heap.size + 1) w8 ((w8.setCell ⟨w.heap.size + 1, 0, none⟩ (.string ⟨S.s.toArray⟩)).setCell ⟨w.heap.size + 1, 1, none⟩ (.int .i64 S.e)) := ((Only.refl _ _).set 0 _).set 1 _
        have C1 : (w8.setCell ⟨w.heap.size + 2, 0, none⟩ (.int .i64 (K : Int))).heap[w.heap.size + 2]? = some (.cells #[.int .i64 (K : Int), .int .i64 0, .int .i64 0, .int .i64 0, .slice none 0 0, .slice none 0 0] 26) := heap_set_self H8.out.1.2.1 0 _
        have C2 : ((w8.setCell ⟨w.heap.size + 2, 0, none⟩ (.int .i64 (K : Int))).setCell ⟨w.heap.size + 2, 1, none⟩ (.int .i64 F.e)).heap[w.heap.size + 2]? = some (.cells #[.int .i64 (K : Int), .int .i64 F.e, .int .i64 0, .int .i64 0, .slice none 0 0, .slice none 0 0] 26) := heap_set_self C1 1 _
        have C3 : (((w8.setCell ⟨w.heap.size + 2, 0, none⟩ (.int .i64 (K : Int))).setCell ⟨w.heap.size + 2, 1, none⟩ (.int .i64 F.e)).setCell ⟨w.heap.size + 2, 2, none⟩ (.int .i64 F.b)).heap[w.heap.size + 2]? = some (.cells #[.int .i64 (K : Int), .int .i64 F.e, .int .i64 F.b, .int .i64 0, .slice none 0 0, .slice none 0 0] 26) := heap_set_self C2 2 _
        have C4 : ((((w8.setCell ⟨w.heap.size + 2, 0, none⟩ (.int .i64 (K : Int))).setCell ⟨w.heap.size + 2, 1, none⟩ (.int .i64 F.e)).setCell ⟨w.heap.size + 2, 2, none⟩ (.int .i64 F.b)).setCell ⟨w.heap.size + 2, 3, none⟩ (.int .i64 F.k)).heap[w.heap.size + 2]? = some (.cells #[.int .i64 (K : Int), .int .i64 F.e, .int .i64 F.b, .int .i64 F.k, .slice none 0 0, .slice none 0 0] 26) := heap_set_self C3 3 _
        have C5 : (((((w8.setCell ⟨w.heap.size + 2, 0, none⟩ (.int .i64 (K : Int))).setCell ⟨w.heap.size + 2, 1, none⟩ (.int .i64 F.e)).setCell ⟨w.heap.size + 2, 2, none⟩ (.int .i64 F.b)).setCell ⟨w.heap.size + 2, 3, none⟩ (.int .i64 F.k)).setCell ⟨w.heap.size + 2, 4, none⟩ (.slice a2 F.M.length p2)).heap[w.heap.size + 2]? = some (.cells #[.int .i64 (K : Int), .int .i64 F.e, .int .i64 F.b, .int .i64 F.k, .slice a2 F.M.length p2, .slice none 0 0] 26) := heap_set_self C4 4 _
        have C6 : ((((((w8.setCell ⟨w.heap.size + 2, 0, none⟩ (.int .i64 (K : Int))).setCell ⟨w.heap.size + 2, 1, none⟩ (.int .i64 F.e)).setCell ⟨w.heap.size + 2, 2, none⟩ (.int .i64 F.b)).setCell ⟨w.heap.size + 2, 3, none⟩ (.int .i64 F.k)).setCell ⟨w.heap.size + 2, 4, none⟩ (.slice a2 F.M.length p2)).setCell ⟨w.heap.size + 2, 5, none⟩ (.slice a3 F.C.length p3)).heap[w.heap.size + 2]? = some (.cells #[.int .i64 (K : Int), .int .i64 F.e, .int .i64 F.b, .int .i64 F.k, .slice a2 F.M.length p2, .slice a3 F.C.length p3] 26) := heap_set_self C5 5 _
        have CO : Only (w.heap.size + 2) w8 ((((((w8.setCell ⟨w.heap.size + 2, 0, none⟩ (.int .i64 (K : Int))).setCell ⟨w.heap.size + 2, 1, none⟩ (.int .i64 F.e)).setCell ⟨w.heap.size + 2, 2, none⟩ (.int .i64 F.b)).setCell ⟨w.heap.size + 2, 3, none⟩ (.int .i64 F.k)).setCell ⟨w.heap.size + 2, 4, none⟩ (.slice a2 F.M.length p2)).setCell ⟨w.heap.size + 2, 5, none⟩ (.slice a3 F.C.length p3)) := ((((((Only.refl _ _).set 0 _).set 1 _).set 2 _).set 3 _).set 4 _).set 5 _
        have pAx := (AO.block Nx (lt_heap H8.out.2.2.1) (by omega)).trans H8.out.2.2.1
        have ax0 := cell_atD pAx 0 (v := .int .i64 (K : Int)) rfl
        have ax1 := cell_atD pAx 1 (v := .int .i64 F.e) rfl
        have ax2 := cell_atD pAx 2 (v := .int .i64 F.b) rfl
        have ax3 := cell_atD pAx 3 (v := .int .i64 F.k) rfl
        have ax4 := cell_atD pAx 4 (v := .slice a2 F.M.length p2) rfl
        have ax5 := cell_atD pAx 5 (v := .slice a3 F.C.length p3) rfl
        have pAc := (AO.block (w.heap.size + 2) (lt_heap H8.out.1.2.1) (by omega)).trans H8.out.1.2.1
        have ac0 := cell_atD pAc 0 (v := .int .i64 0) rfl
        have ac1 := cell_atD pAc 1 (v := .int .i64 0) rfl
        have ac2 := cell_atD pAc 2 (v := .int .i64 0) rfl
        have ac3 := cell_atD pAc 3 (v := .int .i64 0) rfl
        have ac4 := cell_atD pAc 4 (v := .slice none 0 0) rfl
        have ac5 := cell_atD pAc 5 (v := .slice none 0 0) rfl
        have acf : ∀ j, ((w8.setCell ⟨w.heap.size + 1, 0, none⟩ (.string ⟨S.s.toArray⟩)).setCell ⟨w.heap.size + 1, 1, none⟩ (.int .i64 S.e)).frozen? ⟨w.heap.size + 2, j, none⟩ = false := fun j => by simp [World.frozen?, pAc]
        have pCq := (CO.block Nq (lt_heap H8.out.1.2.2.1) (by omega)).trans H8.out.1.2.2.1
        have cq0 := cell_atD pCq 0 (v := .string ⟨S.s.toArray⟩) rfl
        have cq1 := cell_atD pCq 1 (v := .int .i64 S.e) rfl
        have pCr := (CO.block (w.heap.size + 1) (lt_heap H8.out.1.1) (by omega)).trans H8.out.1.1
        have cr0 := cell_atD pCr 0 (v := .string ⟨#[]⟩) rfl
        have cr1 := cell_atD pCr 1 (v := .int .i64 0) rfl
        have crf : ∀ j, ((((((w8.setCell ⟨w.heap.size + 2, 0, none⟩ (.int .i64 (K : Int))).setCell ⟨w.heap.size + 2, 1, none⟩ (.int .i64 F.e)).setCell ⟨w.heap.size + 2, 2, none⟩ (.int .i64 F.b)).setCell ⟨w.heap.size + 2, 3, none⟩ (.int .i64 F.k)).setCell ⟨w.heap.size + 2, 4, none⟩ (.slice a2 F.M.length p2)).setCell ⟨w.heap.size + 2, 5, none⟩ (.slice a3 F.C.length p3)).frozen? ⟨w.heap.size + 1, j, none⟩ = false := fun j => by simp [World.frozen?, pCr]
        clear A1 A2 AO pAx pAc pCq pCr CO C1 C2 C3 C4 C5 C6
        have HFIN := Lib.hid (show ((((((((w8.setCell ⟨w.heap.size + 1, 0, none⟩ (.string ⟨S.s.toArray⟩)).setCell ⟨w.heap.size + 1, 1, none⟩ (.int .i64 S.e)).setCell ⟨w.heap.size + 2, 0, none⟩ (.int .i64 (K : Int))).setCell ⟨w.heap.size + 2, 1, none⟩ (.int .i64 F.e)).setCell ⟨w.heap.size + 2, 2, none⟩ (.int .i64 F.b)).setCell ⟨w.heap.size + 2, 3, none⟩ (.int .i64 F.k)).setCell ⟨w.heap.size + 2, 4, none⟩ (.slice a2 F.M.length p2)).setCell ⟨w.heap.size + 2, 5, none⟩ (.slice a3 F.C.length p3)).drew.heap[w.heap.size + 1]? = some (.cells #[.string ⟨S.s.toArray⟩, .int .i64 S.e] 35) ∧ ((((((((w8.setCell ⟨w.heap.size + 1, 0, none⟩ (.string ⟨S.s.toArray⟩)).setCell ⟨w.heap.size + 1, 1, none⟩ (.int .i64 S.e)).setCell ⟨w.heap.size + 2, 0, none⟩ (.int .i64 (K : Int))).setCell ⟨w.heap.size + 2, 1, none⟩ (.int .i64 F.e)).setCell ⟨w.heap.size + 2, 2, none⟩ (.int .i64 F.b)).setCell ⟨w.heap.size + 2, 3, none⟩ (.int .i64 F.k)).setCell ⟨w.heap.size + 2, 4, none⟩ (.slice a2 F.M.length p2)).setCell ⟨w.heap.size + 2, 5, none⟩ (.slice a3 F.C.length p3)).drew.heap[w.heap.size + 2]? = some (.cells #[.int .i64 (K : Int), .int .i64 F.e, .int .i64 F.b, .int .i64 F.k, .slice a2 F.M.length p2, .slice a3 F.C.length p3] 26) ∧ CFO F w.heap.size ((((((((w8.setCell ⟨w.heap.size + 1, 0, none⟩ (.string ⟨S.s.toArray⟩)).setCell ⟨w.heap.size + 1, 1, none⟩ (.int .i64 S.e)).setCell ⟨w.heap.size + 2, 0, none⟩ (.int .i64 (K : Int))).setCell ⟨w.heap.size + 2, 1, none⟩ (.int .i64 F.e)).setCell ⟨w.heap.size + 2, 2, none⟩ (.int .i64 F.b)).setCell ⟨w.heap.size + 2, 3, none⟩ (.int .i64 F.k)).setCell ⟨w.heap.size + 2, 4, none⟩ (.slice a2 F.M.length p2)).setCell ⟨w.heap.size + 2, 5, none⟩ (.slice a3 F.C.length p3)).drew (.slice a2 F.M.length p2) (.slice a3 F.C.length p3) ∧ Below w.heap.size w ((((((((w8.setCell ⟨w.heap.size + 1, 0, none⟩ (.string ⟨S.s.toArray⟩)).setCell ⟨w.heap.size + 1, 1, none⟩ (.int .i64 S.e)).setCell ⟨w.heap.size + 2, 0, none⟩ (.int .i64 (K : Int))).setCell ⟨w.heap.size + 2, 1, none⟩ (.int .i64 F.e)).setCell ⟨w.heap.size + 2, 2, none⟩ (.int .i64 F.b)).setCell ⟨w.heap.size + 2, 3, none⟩ (.int .i64 F.k)).setCell ⟨w.heap.size + 2, 4, none⟩ (.slice a2 F.M.length p2)).setCell ⟨w.heap.size + 2, 5, none⟩ (.slice a3 F.C.length p3)).drew from
          drew_end GI.out.1 GI.out.2 (CFO.base (((H8.out.2.2.2).only GO.out.1 (by omega)).only GO.out.2 (by omega)) (by omega)) ((H8.out.1.2.2.2.1.trans (GO.out.1.below (by omega) H8.out.1.2.2.2.1.size)).trans (GO.out.2.below (by omega) (Nat.le_trans H8.out.1.2.2.2.1.size GO.out.1.size))))
        clear GI GO hq3 hqx
        go_upto_region 10 with fail
        go_region
        all_goals
          clear ax0 ax1 ax2 ax3 ax4 ax5 ac0 ac1 ac2 ac3 ac4 ac5 acf cq0 cq1 cr0 cr1 crf
          clear z0 z1 zf x0 x1 x2 x3 x4 x5 xf d0 d1 d2 d3 d4 d5 n1 n2 n3 n4 m1 m2 m3 m4 b0 b1 bf
          go_wp2_with fail
          generalize ((((((((w8.setCell ⟨w.heap.size + 1, 0, none⟩ (.string ⟨S.s.toArray⟩)).setCell ⟨w.heap.size + 1, 1, none⟩ (.int .i64 S.e)).setCell ⟨w.heap.size + 2, 0, none⟩ (.int .i64 (K : Int))).setCell ⟨w.heap.size + 2, 1, none⟩ (.int .i64 F.e)).setCell ⟨w.heap.size + 2, 2, none⟩ (.int .i64 F.b)).setCell ⟨w.heap.size + 2, 3, none⟩ (.int .i64 F.k)).setCell ⟨w.heap.size + 2, 4, none⟩ (.slice a2 F.M.length p2)).setCell ⟨w.heap.size + 2, 5, none⟩ (.slice a3 F.C.length p3)).drew = wf at *
          obtain ⟨fi, fj, hL, hbf⟩ := HFIN.out
          have y0 := cell_atD fi 0 (v := .string ⟨S.s.toArray⟩) rfl
          have y1 := cell_atD fi 1 (v := .int .i64 S.e) rfl
          have t0 := cell_atD fj 0 (v := .int .i64 (K : Int)) rfl
          have t1 := cell_atD fj 1 (v := .int .i64 F.e) rfl
          have t2 := cell_atD fj 2 (v := .int .i64 F.b) rfl
          have t3 := cell_atD fj 3 (v := .int .i64 F.k) rfl
          have t4 := cell_atD fj 4 (v := .slice a2 F.M.length p2) rfl
          have t5 := cell_atD fj 5 (v := .slice a3 F.C.length p3) rfl
          clear fi fj
          refine bodyPost_ret (v := .tuple #[.agg #[.string ⟨S.s.toArray⟩, .int .i64 S.e], .agg #[.int .i64 (K : Int), .int .i64 F.e, .int .i64 F.b, .int .i64 F.k, .slice a2 F.M.length p2, .slice a3 F.C.length p3]]) (by simp [results, Try.results12, go_sem, y0, y1, t0, t1, t2, t3, t4, t5]) rfl ?_
          exact ⟨a2, p2, a3, p3, rfl, hL, hbf⟩
    · have u1 : (s1.e == 0) = false := by simpa using hE
      have u2 : (s1.e != 0) = true := by simpa using hE
      obtain ⟨hSf, hK0, hFz⟩ := HA.out.1 hE
      have HFz := Lib.hid (And.intro hSf (And.intro hK0 hFz))
      clear hE hSf hFz hK0 x0 x1 x2 x3 x4 x5
      have z0 := cell_atD H7.out.1.1 0 (v := .string ⟨#[]⟩) rfl
      have z1 := cell_atD H7.out.1.1 1 (v := .int .i64 0) rfl
      have zf : ∀ j, w7.frozen? ⟨w.heap.size + 1, j, none⟩ = false := fun j => by simp [World.frozen?, H7.out.1.1]
      have x0 := cell_atD H7.out.1.2.1 0 (v := .int .i64 0) rfl
      have x1 := cell_atD H7.out.1.2.1 1 (v := .int .i64 0) rfl
      have x2 := cell_atD H7.out.1.2.1 2 (v := .int .i64 0) rfl
      have x3 := cell_atD H7.out.1.2.1 3 (v := .int .i64 0) rfl
      have x4 := cell_atD H7.out.1.2.1 4 (v := .slice none 0 0) rfl
      have x5 := cell_atD H7.out.1.2.1 5 (v := .slice none 0 0) rfl
      have xf : ∀ j, w7.frozen? ⟨w.heap.size + 2, j, none⟩ = false := fun j => by simp [World.frozen?, H7.out.1.2.1]
      have A1 : (w7.setCell ⟨w.heap.size + 1, 0, none⟩ (.string ⟨s1.s.toArray⟩)).heap[w.heap.size + 1]? = some (.cells #[.string ⟨s1.s.toArray⟩, .int .i64 0] 35) := heap_set_self H7.out.1.1 0 _
      have A2 : ((w7.setCell ⟨w.heap.size + 1, 0, none⟩ (.string ⟨s1.s.toArray⟩)).setCell ⟨w.heap.size + 1, 1, none⟩ (.int .i64 s1.e)).heap[w.heap.size + 1]? = some (.cells #[.string ⟨s1.s.toArray⟩, .int .i64 s1.e] 35) := heap_set_self A1 1 _
      have AO : Only (w.heap.size + 1) w7 ((w7.setCell ⟨w.heap.size + 1, 0, none⟩ (.string ⟨s1.s.toArray⟩)).setCell ⟨w.heap.size + 1, 1, none⟩ (.int .i64 s1.e)) := ((Only.refl _ _).set 0 _).set 1 _
      have hC1 := (AO.block _ (lt_heap H7.out.1.2.1) (by omega)).trans H7.out.1.2.1
      have g1 : (((w7.setCell ⟨w.heap.size + 1, 0, none⟩ (.string ⟨s1.s.toArray⟩)).setCell ⟨w.heap.size + 1, 1, none⟩ (.int .i64 s1.e)).setCell ⟨w.heap.size + 2, 0, none⟩ (.int .i64 0)).heap[w.heap.size + 2]? = some (.cells #[.int .i64 0, .int .i64 0, .int .i64 0, .int .i64 0, .slice none 0 0, .slice none 0 0] 26) := heap_set_self hC1 0 _
      have g2 : ((((w7.setCell ⟨w.heap.size + 1, 0, none⟩ (.string ⟨s1.s.toArray⟩)).setCell ⟨w.heap.size + 1, 1, none⟩ (.int .i64 s1.e)).setCell ⟨w.heap.size + 2, 0, none⟩ (.int .i64 0)).setCell ⟨w.heap.size + 2, 1, none⟩ (.int .i64 0)).heap[w.heap.size + 2]? = some (.cells #[.int .i64 0, .int .i64 0, .int .i64 0, .int .i64 0, .slice none 0 0, .slice none 0 0] 26) := heap_set_self g1 1 _
      have g3 : (((((w7.setCell ⟨w.heap.size + 1, 0, none⟩ (.string ⟨s1.s.toArray⟩)).setCell ⟨w.heap.size + 1, 1, none⟩ (.int .i64 s1.e)).setCell ⟨w.heap.size + 2, 0, none⟩ (.int .i64 0)).setCell ⟨w.heap.size + 2, 1, none⟩ (.int .i64 0)).setCell ⟨w.heap.size + 2, 2, none⟩ (.int .i64 0)).heap[w.heap.size + 2]? = some (.cells #[.int .i64 0, .int .i64 0, .int .i64 0, .int .i64 0, .slice none 0 0, .slice none 0 0] 26) := heap_set_self g2 2 _
      have g4 : ((((((w7.setCell ⟨w.heap.size + 1, 0, none⟩ (.string ⟨s1.s.toArray⟩)).setCell ⟨w.heap.size + 1, 1, none⟩ (.int .i64 s1.e)).setCell ⟨w.heap.size + 2, 0, none⟩ (.int .i64 0)).setCell ⟨w.heap.size + 2, 1, none⟩ (.int .i64 0)).setCell ⟨w.heap.size + 2, 2, none⟩ (.int .i64 0)).setCell ⟨w.heap.size + 2, 3, none⟩ (.int .i64 0)).heap[w.heap.size + 2]? = some (.cells #[.int .i64 0, .int .i64 0, .int .i64 0, .int .i64 0, .slice none 0 0, .slice none 0 0] 26) := heap_set_self g3 3 _
      have g5 : (((((((w7.setCell ⟨w.heap.size + 1, 0, none⟩ (.string ⟨s1.s.toArray⟩)).setCell ⟨w.heap.size + 1, 1, none⟩ (.int .i64 s1.e)).setCell ⟨w.heap.size + 2, 0, none⟩ (.int .i64 0)).setCell ⟨w.heap.size + 2, 1, none⟩ (.int .i64 0)).setCell ⟨w.heap.size + 2, 2, none⟩ (.int .i64 0)).setCell ⟨w.heap.size + 2, 3, none⟩ (.int .i64 0)).setCell ⟨w.heap.size + 2, 4, none⟩ (.slice none 0 0)).heap[w.heap.size + 2]? = some (.cells #[.int .i64 0, .int .i64 0, .int .i64 0, .int .i64 0, .slice none 0 0, .slice none 0 0] 26) := heap_set_self g4 4 _
      have g6 : ((((((((w7.setCell ⟨w.heap.size + 1, 0, none⟩ (.string ⟨s1.s.toArray⟩)).setCell ⟨w.heap.size + 1, 1, none⟩ (.int .i64 s1.e)).setCell ⟨w.heap.size + 2, 0, none⟩ (.int .i64 0)).setCell ⟨w.heap.size + 2, 1, none⟩ (.int .i64 0)).setCell ⟨w.heap.size + 2, 2, none⟩ (.int .i64 0)).setCell ⟨w.heap.size + 2, 3, none⟩ (.int .i64 0)).setCell ⟨w.heap.size + 2, 4, none⟩ (.slice none 0 0)).setCell ⟨w.heap.size + 2, 5, none⟩ (.slice none 0 0)).heap[w.heap.size + 2]? = some (.cells #[.int .i64 0, .int .i64 0, .int .i64 0, .int .i64 0, .slice none 0 0, .slice none 0 0] 26) := heap_set_self g5 5 _
      have gO : Only (w.heap.size + 2) ((w7.setCell ⟨w.heap.size + 1, 0, none⟩ (.string ⟨s1.s.toArray⟩)).setCell ⟨w.heap.size + 1, 1, none⟩ (.int .i64 s1.e)) ((((((((w7.setCell ⟨w.heap.size + 1, 0, none⟩ (.string ⟨s1.s.toArray⟩)).setCell ⟨w.heap.size + 1, 1, none⟩ (.int .i64 s1.e)).setCell ⟨w.heap.size + 2, 0, none⟩ (.int .i64 0)).setCell ⟨w.heap.size + 2, 1, none⟩ (.int .i64 0)).setCell ⟨w.heap.size + 2, 2, none⟩ (.int .i64 0)).setCell ⟨w.heap.size + 2, 3, none⟩ (.int .i64 0)).setCell ⟨w.heap.size + 2, 4, none⟩ (.slice none 0 0)).setCell ⟨w.heap.size + 2, 5, none⟩ (.slice none 0 0)) := ((((((Only.refl _ _).set 0 _).set 1 _).set 2 _).set 3 _).set 4 _).set 5 _
      have GI := Lib.hid (And.intro ((gO.block _ (lt_heap A2) (by omega)).trans A2) g6)
      have GO := Lib.hid (And.intro AO gO)
      clear A1 A2 AO hC1 g1 g2 g3 g4 g5 g6 gO
      go_wp2_with fail
      generalize ((((((((w7.setCell ⟨w.heap.size + 1, 0, none⟩ (.string ⟨s1.s.toArray⟩)).setCell ⟨w.heap.size + 1, 1, none⟩ (.int .i64 s1.e)).setCell ⟨w.heap.size + 2, 0, none⟩ (.int .i64 0)).setCell ⟨w.heap.size + 2, 1, none⟩ (.int .i64 0)).setCell ⟨w.heap.size + 2, 2, none⟩ (.int .i64 0)).setCell ⟨w.heap.size + 2, 3, none⟩ (.int .i64 0)).setCell ⟨w.heap.size + 2, 4, none⟩ (.slice none 0 0)).setCell ⟨w.heap.size + 2, 5, none⟩ (.slice none 0 0)) = wf at *
      generalize ((w7.setCell ⟨w.heap.size + 1, 0, none⟩ (.string ⟨s1.s.toArray⟩)).setCell ⟨w.heap.size + 1, 1, none⟩ (.int .i64 s1.e)) = wm at *
      obtain ⟨fi, fj⟩ := GI.out
      have y0 := cell_atD fi 0 (v := .string ⟨s1.s.toArray⟩) rfl
      have y1 := cell_atD fi 1 (v := .int .i64 s1.e) rfl
      have t0 := cell_atD fj 0 (v := .int .i64 0) rfl
      have t1 := cell_atD fj 1 (v := .int .i64 0) rfl
      have t2 := cell_atD fj 2 (v := .int .i64 0) rfl
      have t3 := cell_atD fj 3 (v := .int .i64 0) rfl
      have t4 := cell_atD fj 4 (v := .slice none 0 0) rfl
      have t5 := cell_atD fj 5 (v := .slice none 0 0) rfl
      clear fi fj
      refine bodyPost_ret (v := .tuple #[.agg #[.string ⟨s1.s.toArray⟩, .int .i64 s1.e], .agg #[.int .i64 0, .int .i64 0, .int .i64 0, .int .i64 0, .slice none 0 0, .slice none 0 0]]) (by simp [results, Try.results12, go_sem, y0, y1, t0, t1, t2, t3, t4, t5]) rfl ?_
      refine ⟨none, 0, none, 0, by rw [HFz.out.1, HFz.out.2.1, HFz.out.2.2]; rfl, by rw [HFz.out.2.2]; exact ⟨World.ownsRow_nil _ _ _ _, World.ownsRow_nil _ _ _ _⟩, (H7.out.1.2.2.2.1.trans (GO.out.1.below (by omega) H7.out.1.2.2.2.1.size)).trans (GO.out.2.below (by omega) (Nat.le_trans H7.out.1.2.2.2.1.size GO.out.1.size))⟩
end Go.Proofs.Ytjaaddjbmimjoaa
