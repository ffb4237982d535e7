/-
  Several texts, laid together.
-/
import Derived.Test.YtjaaddjbmimjoaaMh17
import Derived.Test.YtjaaddjbmimjoaaMh19
import Derived.Test.YtjaaddjbmimjoaaMh15
import Derived.Test.YtjaaddjbmimjoaaMh25
/-
  tarnref11.Take.
-/




namespace Go.Proofs.Ytjaaddjbmimjoaa
open Go.RowKit
set_option linter.unusedVariables false
set_option linter.unusedSimpArgs false

def RCT (w : World) (c : CF) (S : RS) (ev : Ending) (w' : World) : Prop :=
  ∃ d1 s1 d2 s2, ev = .returned (.tuple #[rC S, .agg #[.int .i64 c.e, .int .i64 c.b, .int .i64 c.k, .slice d1 c.M.length s1, .slice d2 c.C.length s2]]) ∧ CFO c w.heap.size w' (.slice d1 c.M.length s1) (.slice d2 c.C.length s2) ∧ Below w.heap.size w w'
theorem fail_on {q : RS} (h : q.e ≠ 0) (n : Int) : q.fail n = q := by
  unfold RS.fail
  rw [if_neg]
  intro k
  exact h (by simpa using k.1)
theorem fail_off {q : RS} (h : q.e = 0) (n : Int) (hn : n ≠ 0) : (q.fail n).e = n := by
  unfold RS.fail
  rw [if_pos (by simp [h, hn])]
theorem conf_a (q : RS) (h : q.midK.e ≠ 0) : q.confS = q.midK ∧ q.confV = ⟨0, 0, 0, [], []⟩ := by
  have h1 : q.confS1 = q.midK := by unfold RS.confS1; split; rfl; exact fail_on h 3
  have h2 : q.confS = q.midK := by unfold RS.confS; rw [h1]; split; rfl; exact fail_on h 3
  exact ⟨h2, by rw [RS.confV, h2, if_pos h]⟩
theorem conf_b (q : RS) (h : q.midK.e = 0) (k : q.hdL.length ≠ 3) : q.confS = q.midK.fail 3 ∧ q.confV = ⟨0, 0, 0, [], []⟩ := by
  have h1 : q.confS1 = q.midK.fail 3 := by unfold RS.confS1; rw [if_neg k]
  have he : (q.midK.fail 3).e ≠ 0 := by rw [fail_off h 3 (by decide)]; decide
  have h2 : q.confS = q.midK.fail 3 := by unfold RS.confS; rw [h1]; split; rfl; exact fail_on he 3
  exact ⟨h2, by rw [RS.confV, h2, if_pos he]⟩
theorem conf_c (q : RS) (h : q.midK.e = 0) (k : q.hdL.length = 3) (m : mayC (rawC q.hdL q.mrL q.chL) = false) : q.confS = q.midK.fail 3 ∧ q.confV = ⟨0, 0, 0, [], []⟩ := by
  have h1 : q.confS1 = q.midK := by unfold RS.confS1; rw [if_pos k]
  have he : (q.midK.fail 3).e ≠ 0 := by rw [fail_off h 3 (by decide)]; decide
  have h2 : q.confS = q.midK.fail 3 := by unfold RS.confS; rw [h1, m, if_neg (by decide)]
  exact ⟨h2, by rw [RS.confV, h2, if_pos he]⟩
theorem conf_d (q : RS) (h : q.midK.e = 0) (k : q.hdL.length = 3) (m : mayC (rawC q.hdL q.mrL q.chL) = true) : q.confS = q.midK ∧ q.confV = rawC q.hdL q.mrL q.chL := by
  have h1 : q.confS1 = q.midK := by unfold RS.confS1; rw [if_pos k]
  have h2 : q.confS = q.midK := by unfold RS.confS; rw [h1, m, if_pos rfl]
  exact ⟨h2, by rw [RS.confV, h2, if_neg (by simpa using h)]⟩
theorem three_alloc (w : World) (X Y Z : Array Value) (s t u : TypeId) : (((w.alloc (.cells X s)).alloc (.cells Y t)).alloc (.cells Z u)).heap[w.heap.size]? = some (.cells X s) ∧ (((w.alloc (.cells X s)).alloc (.cells Y t)).alloc (.cells Z u)).heap[w.heap.size + 1]? = some (.cells Y t) ∧ (((w.alloc (.cells X s)).alloc (.cells Y t)).alloc (.cells Z u)).heap[w.heap.size + 2]? = some (.cells Z u) ∧ Below w.heap.size w (((w.alloc (.cells X s)).alloc (.cells Y t)).alloc (.cells Z u)) ∧ (((w.alloc (.cells X s)).alloc (.cells Y t)).alloc (.cells Z u)).heap.size = w.heap.size + 3 := by
  refine ⟨?_, ?_, ?_, (((Below.refl _ _).alloc (Nat.le_refl _) _).alloc (by simp) _).alloc (by simp; omega) _, by simp⟩
  · exact alloc_far (alloc_far (heap_alloc_self _ _))
  · have := alloc_far (o := .cells Z u) (heap_alloc_self (w.alloc (.cells X s)) (.cells Y t)); simpa using this
  · have := heap_alloc_self ((w.alloc (.cells X s)).alloc (.cells Y t)) (.cells Z u); simpa using this
/-- after the three lists: the results' cells, the bytes that are left, what is kept -/
def Three (Nq : Nat) (w : World) (S : RS) (wx : World) : Prop :=
  wx.heap[w.heap.size + 1]? = some (.cells #[.string ⟨#[]⟩, .int .i64 0] 35) ∧ wx.heap[w.heap.size + 2]? = some (.cells #[.int .i64 0, .int .i64 0, .int .i64 0, .slice none 0 0, .slice none 0 0] 24) ∧ wx.heap[Nq]? = some (.cells #[.string ⟨S.s.toArray⟩, .int .i64 S.e] 35) ∧ Below w.heap.size w wx ∧ w.heap.size + 3 ≤ Nq
theorem Three.below {Nq : Nat} {w wx wy : World} {S : RS} (h : Three Nq w S wx) (hb : Below wx.heap.size wx wy) : Three Nq w S wy :=
  ⟨below_at hb (lt_heap h.1) h.1, below_at hb (lt_heap h.2.1) h.2.1, below_at hb (lt_heap h.2.2.1) h.2.2.1, h.2.2.2.1.trans (hb.mono h.2.2.2.1.size), h.2.2.2.2⟩
theorem Three.over {Nq : Nat} {w wx wy : World} {S S' : RS} (h : Three Nq w S wx) (ho : Only Nq wx wy) (hq : wy.heap[Nq]? = some (.cells #[.string ⟨S'.s.toArray⟩, .int .i64 S'.e] 35)) : Three Nq w S' wy :=
  ⟨(ho.block _ (lt_heap h.1) (by have := h.2.2.2.2; omega)).trans h.1, (ho.block _ (lt_heap h.2.1) (by have := h.2.2.2.2; omega)).trans h.2.1, hq, h.2.2.2.1.trans (ho.below (by have := h.2.2.2.2; omega) h.2.2.2.1.size), h.2.2.2.2⟩
theorem lr_ne {y : Nat} {w : World} {n p : Nat} {a : Option Addr} {M : List Int} (hn : M.length = n) (h : SR w (.slice a n p) 1 n (nCells M)) (hg : ∀ b, (Value.slice a n p).ownBlock = some b → b ≠ y) : LR (fun b => b ≠ y) w (.slice a n p) M := by
  subst hn
  refine ⟨h, ?_⟩
  obtain ⟨a', cap, e, h1, h2, h3, h4⟩ := h
  injection e with e1 e2 e3
  subst e1 e3
  rcases h4 with h4 | ⟨g, off, rfl, hb, hc⟩
  · exact .inl h4
  · exact .inr ⟨g, rfl, hb, hg g rfl⟩
theorem LR.below {y : Nat} {w w' : World} {v : Value} {M : List Int} (h : LR (fun b => b ≠ y) w v M) (hb : Below w.heap.size w w') : LR (fun b => b ≠ y) w' v M := h.move hb.size fun b hl hp => ⟨hb.block b hl, hp⟩
theorem LR.over {y : Nat} {w w' : World} {v : Value} {M : List Int} (h : LR (fun b => b ≠ y) w v M) (ho : Only y w w') : LR (fun b => b ≠ y) w' v M := h.move ho.size fun b hl hp => ⟨ho.block b hl hp, hp⟩
theorem two_cellsD {w : World} {b : Nat} {q : RS} (h : w.heap[b]? = some (.cells #[.string ⟨q.s.toArray⟩, .int .i64 q.e] 35)) : w.cell? ⟨b, 0, none⟩ = some (.string ⟨q.s.toArray⟩) ∧ w.cell? ⟨b, 1, none⟩ = some (.int .i64 q.e) ∧ ∀ j, w.frozen? ⟨b, j, none⟩ = false := two_cellsR h
theorem CFO.drew {c : CF} {base : Nat} {w : World} {v1 v2 : Value} (h : CFO c base w v1 v2) : CFO c base w.drew v1 v2 := h.below (below_drew' (Below.refl _ _))
theorem drew_end {w wx : World} {b : Nat} {X Y : Obj} {c : CF} {base : Nat} {v1 v2 : Value} (h1 : wx.heap[b + 1]? = some X) (h2 : wx.heap[b + 2]? = some Y) (h3 : CFO c base wx v1 v2) (h4 : Below b w wx) : wx.drew.heap[b + 1]? = some X ∧ wx.drew.heap[b + 2]? = some Y ∧ CFO c base wx.drew v1 v2 ∧ Below b w wx.drew := ⟨h1, h2, h3.drew, below_drew' h4⟩
set_option maxHeartbeats 6400000 in
set_option maxRecDepth 100000 in
theorem ctakeR (q : RS) (w : World) (hok : ROk q) (hl : q.s.length ≤ 1000000) :
    Calls Try.prog 57 #[rC q] w (RCT w q.confV q.confS) := by
  have k1 := ROk.list hok 3 1048576
  have l1 := Nat.le_trans (listS_len q 3 1048576) hl
  have k2 := ROk.list k1 3 5
  have l2 := Nat.le_trans (listS_len (q.listS 3 1048576) 3 5) l1
  have c1 : ∀ w, Calls Try.prog 61 #[rC q, .int .i64 3, .int .i64 1048576] w (RListP w q 3 1048576) := fun w => rlist q 3 1048576 w hok hl (by decide) (by decide) (by decide) (by decide)
  have c2 : ∀ w, Calls Try.prog 61 #[rC (q.listS 3 1048576), .int .i64 3, .int .i64 5] w (RListP w (q.listS 3 1048576) 3 5) := fun w => rlist _ 3 5 w k1 l1 (by decide) (by decide) (by decide) (by decide)
  have c3 : ∀ w, Calls Try.prog 61 #[rC ((q.listS 3 1048576).listS 3 5), .int .i64 3, .int .i64 5] w (RListP w ((q.listS 3 1048576).listS 3 5) 3 5) := fun w => rlist _ 3 5 w k2 l2 (by decide) (by decide) (by decide) (by decide)
  unfold RListP at c1 c2 c3
  have ca := conf_a q
  have cb := conf_b q
  have cc := conf_c q
  have cd := conf_d q
  obtain ⟨S, hS⟩ : ∃ S, q.confS = S := ⟨_, rfl⟩
  obtain ⟨F, hF⟩ : ∃ F, q.confV = F := ⟨_, rfl⟩
  obtain ⟨q3, hq3⟩ : ∃ q3, q.midK = q3 := ⟨_, rfl⟩
  obtain ⟨H, hH⟩ : ∃ H, q.hdL = H := ⟨_, rfl⟩
  obtain ⟨M, hM⟩ : ∃ M, q.mrL = M := ⟨_, rfl⟩
  obtain ⟨C, hC⟩ : ∃ C, q.chL = C := ⟨_, rfl⟩
  have hMl := listV_len (q.listS 3 1048576) 3 5 (by decide)
  have hCl := listV_len ((q.listS 3 1048576).listS 3 5) 3 5 (by decide)
  have hHl := listV_len q 3 1048576 (by decide)
  rw [show (q.listS 3 1048576).listV 3 5 = M from hM] at c2 hMl
  rw [show ((q.listS 3 1048576).listS 3 5).listV 3 5 = C from hC, show ((q.listS 3 1048576).listS 3 5).listS 3 5 = q3 from hq3] at c3
  rw [show ((q.listS 3 1048576).listS 3 5).listV 3 5 = C from hC] at hCl
  rw [show q.listV 3 1048576 = H from hH] at c1 hHl
  obtain ⟨q2, hq2⟩ : ∃ q2, (q.listS 3 1048576).listS 3 5 = q2 := ⟨_, rfl⟩
  rw [hq2] at c2 c3
  obtain ⟨q1, hq1⟩ : ∃ q1, q.listS 3 1048576 = q1 := ⟨_, rfl⟩
  rw [hq1] at c1 c2
  obtain ⟨c, hc⟩ : ∃ c, rawC H M C = c := ⟨_, rfl⟩
  have hcM : c.M = M := by rw [← hc, rawC_M]
  have hcC : c.C = C := by rw [← hc, rawC_C]
  rw [hS, hF, hq3] at ca
  rw [hS, hF, hq3, hH] at cb
  rw [hS, hF, hq3, hH, hM, hC, hc] at cc cd
  rw [hS, hF]
  subst hcM hcC
  have HA := Lib.hid (And.intro ca (And.intro cb (And.intro cc (And.intro cd hc))))
  have HL := Lib.hid (And.intro hMl (And.intro hCl hHl))
  have C2 := Lib.hid c2
  have C3 := Lib.hid c3
  clear hS hF hq3 hH hM hC hq1 hq2 hc ca cb cc cd hok hl k1 k2 l1 l2 hMl hCl hHl c2 c3
  obtain ⟨s, er⟩ := q
  unfold rC at c1 ⊢
  simp only at c1 ⊢
  obtain ⟨h0, h1, h2, hb, hz⟩ := three_alloc w #[.string ⟨s.toArray⟩, .int .i64 er] #[.string ⟨#[]⟩, .int .i64 0] #[.int .i64 0, .int .i64 0, .int .i64 0, .slice none 0 0, .slice none 0 0] 35 35 24
  go_enter Try.func57, Try.ntmps57
  go_upto_region 1 with fail
  generalize ((w.alloc (.cells #[.string ⟨s.toArray⟩, .int .i64 er] 35)).alloc (.cells #[.string ⟨#[]⟩, .int .i64 0] 35)).alloc (.cells #[.int .i64 0, .int .i64 0, .int .i64 0, .slice none 0 0, .slice none 0 0] 24) = w1 at *
  have c0 := cell_atD h0 0 (v := .string ⟨s.toArray⟩) rfl
  have c01 := cell_atD h0 1 (v := .int .i64 er) rfl
  have H1 := Lib.hid (And.intro h1 (And.intro h2 (And.intro hb hz)))
  clear h0 h1 h2 hb hz
  go_wp2_with fail
  refine Calls.mono (c1 w1) ?_
  rintro ev w2 ⟨v1, rfl, o1, hb2⟩
  obtain ⟨a1, p1, rfl⟩ := owns_form3 o1
  obtain ⟨h1, h2, hb, hz⟩ := H1.out
  have hz2 : w.heap.size + 3 ≤ w2.heap.size := by have := hb2.size; omega
  have hP := heap_alloc_self w2 (.cells #[.string ⟨q1.s.toArray⟩, .int .i64 q1.e] 35)
  have hb23 : Below w2.heap.size w2 (w2.alloc (.cells #[.string ⟨q1.s.toArray⟩, .int .i64 q1.e] 35)) := (Below.refl _ _).alloc (Nat.le_refl _) _
  have HT := Lib.hid (show Three w2.heap.size w q1 (w2.alloc (.cells #[.string ⟨q1.s.toArray⟩, .int .i64 q1.e] 35)) from
    ⟨below_at (hb2.trans (hb23.mono hb2.size)) (lt_heap h1) h1, below_at (hb2.trans (hb23.mono hb2.size)) (lt_heap h2) h2, hP, hb.trans ((hb2.trans (hb23.mono hb2.size)).mono hb.size), hz2⟩)
  obtain ⟨nH, hnH⟩ : ∃ n, H.length = n := ⟨_, rfl⟩
  rw [hnH] at o1
  try rw [hnH]
  have HNH := Lib.hid hnH
  have HR := Lib.hid (And.intro (show LR (fun b => b ≠ w2.heap.size) (w2.alloc (.cells #[.string ⟨q1.s.toArray⟩, .int .i64 q1.e] 35)) (.slice a1 nH p1) H from lr_ne hnH (SR.owns (owns_below o1 hb23)) (fun b e => by have := (o1.lt b e).2; omega)) (show w2.heap.size < (w2.alloc (.cells #[.string ⟨q1.s.toArray⟩, .int .i64 q1.e] 35)).heap.size by simp))
  clear hnH h1 h2 hb hz hb2 o1 hz2 hP hb23 H1 c0 c01 c1
  go_upto_region 2 with fail
  generalize w2.alloc (.cells #[.string ⟨q1.s.toArray⟩, .int .i64 q1.e] 35) = w3 at *
  obtain ⟨Nq, hNq⟩ : ∃ N, w2.heap.size = N := ⟨_, rfl⟩
  rw [hNq] at HT HR
  try rw [hNq]
  clear hNq
  obtain ⟨b0, b1, bf⟩ := two_cellsD HT.out.2.2.1
  have c2 := C2.out w3
  unfold rC at c2
  go_wp2_with fail
  refine Calls.mono c2 ?_
  rintro ev w4 ⟨v2, rfl, o2, hb4⟩
  obtain ⟨a2, p2, rfl⟩ := owns_form3 o2
  clear b0 b1 bf c2 C2
  have HT4 := HT.out.below hb4
  obtain ⟨b0, b1, bf⟩ := two_cellsD HT4.2.2.1
  have s1 : (w4.setCell ⟨Nq, 0, none⟩ (.string ⟨q2.s.toArray⟩)).heap[Nq]? = some (.cells #[.string ⟨q2.s.toArray⟩, .int .i64 q1.e] 35) := heap_set_self HT4.2.2.1 0 _
  have s2 : ((w4.setCell ⟨Nq, 0, none⟩ (.string ⟨q2.s.toArray⟩)).setCell ⟨Nq, 1, none⟩ (.int .i64 q2.e)).heap[Nq]? = some (.cells #[.string ⟨q2.s.toArray⟩, .int .i64 q2.e] 35) := heap_set_self s1 1 _
  have hO : Only Nq w4 ((w4.setCell ⟨Nq, 0, none⟩ (.string ⟨q2.s.toArray⟩)).setCell ⟨Nq, 1, none⟩ (.int .i64 q2.e)) := ((Only.refl _ _).set 0 _).set 1 _
  have HT5 := Lib.hid (HT4.over hO s2)
  have HR5 := Lib.hid (And.intro ((HR.out.1.below hb4).over hO) (And.intro (own_onlyD (owns_baseD o2 (show Nq + 1 ≤ w3.heap.size from HR.out.2)) hO (by omega)) (show Nq < ((w4.setCell ⟨Nq, 0, none⟩ (.string ⟨q2.s.toArray⟩)).setCell ⟨Nq, 1, none⟩ (.int .i64 q2.e)).heap.size from lt_heap s2)))
  clear hO s1 s2 HT4 o2 hb4 HT HR
  go_upto_region 3 with fail
  clear b0 b1 bf
  generalize (w4.setCell ⟨Nq, 0, none⟩ (.string ⟨q2.s.toArray⟩)).setCell ⟨Nq, 1, none⟩ (.int .i64 q2.e) = w5 at *
  obtain ⟨b0, b1, bf⟩ := two_cellsD HT5.out.2.2.1
  have c3 := C3.out w5
  unfold rC at c3
  go_wp2_with fail
  refine Calls.mono c3 ?_
  rintro ev w6 ⟨v3, rfl, o3, hb6⟩
  obtain ⟨a3, p3, rfl⟩ := owns_form3 o3
  clear b0 b1 bf c3 C3
  have HT6 := HT5.out.below hb6
  obtain ⟨b0, b1, bf⟩ := two_cellsD HT6.2.2.1
  have s1 : (w6.setCell ⟨Nq, 0, none⟩ (.string ⟨q3.s.toArray⟩)).heap[Nq]? = some (.cells #[.string ⟨q3.s.toArray⟩, .int .i64 q2.e] 35) := heap_set_self HT6.2.2.1 0 _
  have s2 : ((w6.setCell ⟨Nq, 0, none⟩ (.string ⟨q3.s.toArray⟩)).setCell ⟨Nq, 1, none⟩ (.int .i64 q3.e)).heap[Nq]? = some (.cells #[.string ⟨q3.s.toArray⟩, .int .i64 q3.e] 35) := heap_set_self s1 1 _
  have hO : Only Nq w6 ((w6.setCell ⟨Nq, 0, none⟩ (.string ⟨q3.s.toArray⟩)).setCell ⟨Nq, 1, none⟩ (.int .i64 q3.e)) := ((Only.refl _ _).set 0 _).set 1 _
  have H7 := Lib.hid (HT6.over hO s2)
  have HR7 := Lib.hid (And.intro ((HR5.out.1.below hb6).over hO) (And.intro (own_onlyD (owns_below HR5.out.2.1 hb6) hO (by omega)) (own_onlyD (owns_baseD o3 (show Nq + 1 ≤ w5.heap.size from HR5.out.2.2)) hO (by omega))))
  clear hO s1 s2 HT6 o3 hb6 HT5 HR5
  go_upto_region 4 with fail
  clear b0 b1 bf
  generalize (w6.setCell ⟨Nq, 0, none⟩ (.string ⟨q3.s.toArray⟩)).setCell ⟨Nq, 1, none⟩ (.int .i64 q3.e) = w7 at *
  obtain ⟨b0, b1, bf⟩ := two_cellsD H7.out.2.2.1
  have z0 := cell_atD H7.out.1 0 (v := .string ⟨#[]⟩) rfl
  have z1 := cell_atD H7.out.1 1 (v := .int .i64 0) rfl
  have zf : ∀ j, w7.frozen? ⟨w.heap.size + 1, j, none⟩ = false := fun j => by simp [World.frozen?, H7.out.1]
  have x0 := cell_atD H7.out.2.1 0 (v := .int .i64 0) rfl
  have x1 := cell_atD H7.out.2.1 1 (v := .int .i64 0) rfl
  have x2 := cell_atD H7.out.2.1 2 (v := .int .i64 0) rfl
  have x3 := cell_atD H7.out.2.1 3 (v := .slice none 0 0) rfl
  have x4 := cell_atD H7.out.2.1 4 (v := .slice none 0 0) rfl
  have xf : ∀ j, w7.frozen? ⟨w.heap.size + 2, j, none⟩ = false := fun j => by simp [World.frozen?, H7.out.2.1]
  by_cases hE : q3.e = 0
  · have u1 : (q3.e != 0) = false := by simpa using hE
    have hE0 := Lib.hid hE
    clear hE
    clear z0 z1 zf x0 x1 x2 x3 x4 xf
    by_cases h3 : nH = 3
    · subst h3
      have h3 := HNH.out
      have hcr := HA.out.2.2.2.2
      have ec0 : c.e = H.getD 0 0 := by have := congrArg CF.e hcr; rw [rawC, if_pos h3] at this; exact this.symm
      have ec1 : c.b = H.getD 1 0 := by have := congrArg CF.b hcr; rw [rawC, if_pos h3] at this; exact this.symm
      have ec2 : c.k = H.getD 2 0 := by have := congrArg CF.k hcr; rw [rawC, if_pos h3] at this; exact this.symm
      obtain ⟨g, off, hgo, hg, hcell⟩ := (show SR w7 (.slice a1 3 p1) 1 3 (nCells H) from by have := HR7.out.1.1; rwa [h3] at this).int (l := H) (by omega)
      subst hgo
      have g0 := hcell 0 (by omega)
      have g1 := hcell 1 (by omega)
      have g2 := hcell 2 (by omega)
      rw [← ec0] at g0
      rw [← ec1] at g1
      rw [← ec2] at g2
      simp only [Nat.add_zero] at g0
      have ba : ∀ o, Below w7.heap.size w7 (w7.alloc o) := fun o => (Below.refl _ _).alloc (Nat.le_refl _) _
      have k0 : ∀ o, (w7.alloc o).cell? ⟨g, off, none⟩ = some (.int .i64 c.e) := fun o => ((ba o).cell (p := ⟨g, off, none⟩) hg).trans g0
      have k1 : ∀ o, (w7.alloc o).cell? ⟨g, off + 1, none⟩ = some (.int .i64 c.b) := fun o => ((ba o).cell (p := ⟨g, off + 1, none⟩) hg).trans g1
      have k2 : ∀ o, (w7.alloc o).cell? ⟨g, off + 2, none⟩ = some (.int .i64 c.k) := fun o => ((ba o).cell (p := ⟨g, off + 2, none⟩) hg).trans g2
      have hb78 : Below w7.heap.size w7 (w7.alloc (.cells #[.int .i64 c.e, .int .i64 c.b, .int .i64 c.k, .slice a2 c.M.length p2, .slice a3 c.C.length p3] 24)).drew := below_drew' ((Below.refl _ _).alloc (Nat.le_refl _) _)
      have hX8 : (w7.alloc (.cells #[.int .i64 c.e, .int .i64 c.b, .int .i64 c.k, .slice a2 c.M.length p2, .slice a3 c.C.length p3] 24)).drew.heap[w7.heap.size]? = some (.cells #[.int .i64 c.e, .int .i64 c.b, .int .i64 c.k, .slice a2 c.M.length p2, .slice a3 c.C.length p3] 24) := heap_alloc_self w7 _
      have H8 := Lib.hid (And.intro (H7.out.below hb78) (And.intro hX8 (And.intro (show CFO c (Nq + 1) (w7.alloc (.cells #[.int .i64 c.e, .int .i64 c.b, .int .i64 c.k, .slice a2 c.M.length p2, .slice a3 c.C.length p3] 24)).drew (.slice a2 c.M.length p2) (.slice a3 c.C.length p3) from ⟨owns_below HR7.out.2.1 hb78, owns_below HR7.out.2.2 hb78⟩) (lt_heap H7.out.2.2.1))))
      have HH3 := Lib.hid h3
      clear hcell ec0 ec1 ec2 hcr h3 ba hb78 hX8
      go_upto_region 8 with fail
      go_region
      clear k0 k1 k2 g0 g1 g2 b0 b1 bf hg HR7 H7
      go_upto_region 9 with fail
      generalize (w7.alloc (.cells #[.int .i64 c.e, .int .i64 c.b, .int .i64 c.k, .slice a2 c.M.length p2, .slice a3 c.C.length p3] 24)).drew = w8 at *
      obtain ⟨Nx, hNx⟩ : ∃ N, w7.heap.size = N := ⟨_, rfl⟩
      rw [hNx] at H8
      try rw [hNx]
      clear hNx
      have x0 := cell_atD H8.out.2.1 0 (v := .int .i64 c.e) rfl
      have x1 := cell_atD H8.out.2.1 1 (v := .int .i64 c.b) rfl
      have x2 := cell_atD H8.out.2.1 2 (v := .int .i64 c.k) rfl
      have x3 := cell_atD H8.out.2.1 3 (v := .slice a2 c.M.length p2) rfl
      have x4 := cell_atD H8.out.2.1 4 (v := .slice a3 c.C.length p3) rfl
      have cm := rmayD c a2 a3 p2 p3 w8 (H8.out.2.2.1.at_)
      obtain ⟨mb, hmb⟩ : ∃ mb, mayC c = mb := ⟨_, rfl⟩
      rw [hmb] at cm
      have HMB := Lib.hid hmb
      clear hmb
      go_wp2_with fail
      refine Calls.mono cm ?_
      rintro ev w9 ⟨rfl, hb9⟩
      have H9 := Lib.hid (And.intro (H8.out.1.below hb9) (And.intro (below_at hb9 (lt_heap H8.out.2.1) H8.out.2.1) (And.intro (H8.out.2.2.1.below hb9) H8.out.2.2.2)))
      clear x0 x1 x2 x3 x4 cm hb9 H8
      obtain ⟨b0, b1, bf⟩ := two_cellsD H9.out.1.2.2.1
      cases mb
      · obtain ⟨hSf, hFz⟩ := HA.out.2.2.1 hE0.out HH3.out HMB.out
        have cf := rfail q3 3 w9
        rw [← hSf] at cf
        have HFz := Lib.hid hFz
        unfold rC at cf
        clear hSf hFz
        go_wp2_with fail
        refine Calls.mono cf ?_
        rintro ev w8 ⟨rfl, hb8⟩
        have H8 := Lib.hid (H9.out.1.below hb8)
        clear b0 b1 bf cf hb8
        have z0 := cell_atD H8.out.1 0 (v := .string ⟨#[]⟩) rfl
        have z1 := cell_atD H8.out.1 1 (v := .int .i64 0) rfl
        have zf : ∀ j, w8.frozen? ⟨w.heap.size + 1, j, none⟩ = false := fun j => by simp [World.frozen?, H8.out.1]
        have x0 := cell_atD H8.out.2.1 0 (v := .int .i64 0) rfl
        have x1 := cell_atD H8.out.2.1 1 (v := .int .i64 0) rfl
        have x2 := cell_atD H8.out.2.1 2 (v := .int .i64 0) rfl
        have x3 := cell_atD H8.out.2.1 3 (v := .slice none 0 0) rfl
        have x4 := cell_atD H8.out.2.1 4 (v := .slice none 0 0) rfl
        have xf : ∀ j, w8.frozen? ⟨w.heap.size + 2, j, none⟩ = false := fun j => by simp [World.frozen?, H8.out.2.1]
        have A1 : (w8.setCell ⟨w.heap.size + 1, 0, none⟩ (.string ⟨S.s.toArray⟩)).heap[w.heap.size + 1]? = some (.cells #[.string ⟨S.s.toArray⟩, .int .i64 0] 35) := heap_set_self H8.out.1 0 _
        have A2 : ((w8.setCell ⟨w.heap.size + 1, 0, none⟩ (.string ⟨S.s.toArray⟩)).setCell ⟨w.heap.size + 1, 1, none⟩ (.int .i64 S.e)).heap[w.heap.size + 1]? = some (.cells #[.string ⟨S.s.toArray⟩, .int .i64 S.e] 35) := heap_set_self A1 1 _
        have AO : Only (w.heap.size + 1) w8 ((w8.setCell ⟨w.heap.size + 1, 0, none⟩ (.string ⟨S.s.toArray⟩)).setCell ⟨w.heap.size + 1, 1, none⟩ (.int .i64 S.e)) := ((Only.refl _ _).set 0 _).set 1 _
        have hC1 := (AO.block _ (lt_heap H8.out.2.1) (by omega)).trans H8.out.2.1
        have g1 : (((w8.setCell ⟨w.heap.size + 1, 0, none⟩ (.string ⟨S.s.toArray⟩)).setCell ⟨w.heap.size + 1, 1, none⟩ (.int .i64 S.e)).setCell ⟨w.heap.size + 2, 0, none⟩ (.int .i64 0)).heap[w.heap.size + 2]? = some (.cells #[.int .i64 0, .int .i64 0, .int .i64 0, .slice none 0 0, .slice none 0 0] 24) := heap_set_self hC1 0 _
        have g2 : ((((w8.setCell ⟨w.heap.size + 1, 0, none⟩ (.string ⟨S.s.toArray⟩)).setCell ⟨w.heap.size + 1, 1, none⟩ (.int .i64 S.e)).setCell ⟨w.heap.size + 2, 0, none⟩ (.int .i64 0)).setCell ⟨w.heap.size + 2, 1, none⟩ (.int .i64 0)).heap[w.heap.size + 2]? = some (.cells #[.int .i64 0, .int .i64 0, .int .i64 0, .slice none 0 0, .slice none 0 0] 24) := heap_set_self g1 1 _
        have g3 : (((((w8.setCell ⟨w.heap.size + 1, 0, none⟩ (.string ⟨S.s.toArray⟩)).setCell ⟨w.heap.size + 1, 1, none⟩ (.int .i64 S.e)).setCell ⟨w.heap.size + 2, 0, none⟩ (.int .i64 0)).setCell ⟨w.heap.size + 2, 1, none⟩ (.int .i64 0)).setCell ⟨w.heap.size + 2, 2, none⟩ (.int .i64 0)).heap[w.heap.size + 2]? = some (.cells #[.int .i64 0, .int .i64 0, .int .i64 0, .slice none 0 0, .slice none 0 0] 24) := heap_set_self g2 2 _
        have g4 : ((((((w8.setCell ⟨w.heap.size + 1, 0, none⟩ (.string ⟨S.s.toArray⟩)).setCell ⟨w.heap.size + 1, 1, none⟩ (.int .i64 S.e)).setCell ⟨w.heap.size + 2, 0, none⟩ (.int .i64 0)).setCell ⟨w.heap.size + 2, 1, none⟩ (.int .i64 0)).setCell ⟨w.heap.size + 2, 2, none⟩ (.int .i64 0)).setCell ⟨w.heap.size + 2, 3, none⟩ (.slice none 0 0)).heap[w.heap.size + 2]? = some (.cells #[.int .i64 0, .int .i64 0, .int .i64 0, .slice none 0 0, .slice none 0 0] 24) := heap_set_self g3 3 _
        have g5 : (((((((w8.setCell ⟨w.heap.size + 1, 0, none⟩ (.string ⟨S.s.toArray⟩)).setCell ⟨w.heap.size + 1, 1, none⟩ (.int .i64 S.e)).setCell ⟨w.heap.size + 2, 0, none⟩ (.int .i64 0)).setCell ⟨w.heap.size + 2, 1, none⟩ (.int .i64 0)).setCell ⟨w.heap.size + 2, 2, none⟩ (.int .i64 0)).setCell ⟨w.heap.size + 2, 3, none⟩ (.slice none 0 0)).setCell ⟨w.heap.size + 2, 4, none⟩ (.slice none 0 0)).heap[w.heap.size + 2]? = some (.cells #[.int .i64 0, .int .i64 0, .int .i64 0, .slice none 0 0, .slice none 0 0] 24) := heap_set_self g4 4 _
        have gO : Only (w.heap.size + 2) ((w8.setCell ⟨w.heap.size + 1, 0, none⟩ (.string ⟨S.s.toArray⟩)).setCell ⟨w.heap.size + 1, 1, none⟩ (.int .i64 S.e)) (((((((w8.setCell ⟨w.heap.size + 1, 0, none⟩ (.string ⟨S.s.toArray⟩)).setCell ⟨w.heap.size + 1, 1, none⟩ (.int .i64 S.e)).setCell ⟨w.heap.size + 2, 0, none⟩ (.int .i64 0)).setCell ⟨w.heap.size + 2, 1, none⟩ (.int .i64 0)).setCell ⟨w.heap.size + 2, 2, none⟩ (.int .i64 0)).setCell ⟨w.heap.size + 2, 3, none⟩ (.slice none 0 0)).setCell ⟨w.heap.size + 2, 4, none⟩ (.slice none 0 0)) := (((((Only.refl _ _).set 0 _).set 1 _).set 2 _).set 3 _).set 4 _
        have GI := Lib.hid (And.intro ((gO.block _ (lt_heap A2) (by omega)).trans A2) g5)
        have GO := Lib.hid (And.intro AO gO)
        clear A1 A2 AO hC1 g1 g2 g3 g4 g5 gO
        go_wp2_with fail
        generalize (((((((w8.setCell ⟨w.heap.size + 1, 0, none⟩ (.string ⟨S.s.toArray⟩)).setCell ⟨w.heap.size + 1, 1, none⟩ (.int .i64 S.e)).setCell ⟨w.heap.size + 2, 0, none⟩ (.int .i64 0)).setCell ⟨w.heap.size + 2, 1, none⟩ (.int .i64 0)).setCell ⟨w.heap.size + 2, 2, none⟩ (.int .i64 0)).setCell ⟨w.heap.size + 2, 3, none⟩ (.slice none 0 0)).setCell ⟨w.heap.size + 2, 4, none⟩ (.slice none 0 0)) = wf at *
        generalize ((w8.setCell ⟨w.heap.size + 1, 0, none⟩ (.string ⟨S.s.toArray⟩)).setCell ⟨w.heap.size + 1, 1, none⟩ (.int .i64 S.e)) = wm at *
        obtain ⟨fi, fj⟩ := GI.out
        have y0 := cell_atD fi 0 (v := .string ⟨S.s.toArray⟩) rfl
        have y1 := cell_atD fi 1 (v := .int .i64 S.e) rfl
        have t0 := cell_atD fj 0 (v := .int .i64 0) rfl
        have t1 := cell_atD fj 1 (v := .int .i64 0) rfl
        have t2 := cell_atD fj 2 (v := .int .i64 0) rfl
        have t3 := cell_atD fj 3 (v := .slice none 0 0) rfl
        have t4 := cell_atD fj 4 (v := .slice none 0 0) rfl
        clear fi fj
        refine bodyPost_ret (v := .tuple #[.agg #[.string ⟨S.s.toArray⟩, .int .i64 S.e], .agg #[.int .i64 0, .int .i64 0, .int .i64 0, .slice none 0 0, .slice none 0 0]]) (by simp [results, Try.results57, go_sem, y0, y1, t0, t1, t2, t3, t4]) rfl ?_
        refine ⟨none, 0, none, 0, by rw [HFz.out]; rfl, by rw [HFz.out]; exact ⟨World.ownsRow_nil _ _ _ _, World.ownsRow_nil _ _ _ _⟩, (H8.out.2.2.2.1.trans (GO.out.1.below (by omega) H8.out.2.2.2.1.size)).trans (GO.out.2.below (by omega) (Nat.le_trans H8.out.2.2.2.1.size GO.out.1.size))⟩
      · obtain ⟨hSf, hFz⟩ := HA.out.2.2.2.1 hE0.out HH3.out HMB.out
        subst hSf hFz
        have z0 := cell_atD H9.out.1.1 0 (v := .string ⟨#[]⟩) rfl
        have z1 := cell_atD H9.out.1.1 1 (v := .int .i64 0) rfl
        have zf : ∀ j, w9.frozen? ⟨w.heap.size + 1, j, none⟩ = false := fun j => by simp [World.frozen?, H9.out.1.1]
        have x0 := cell_atD H9.out.1.2.1 0 (v := .int .i64 0) rfl
        have x1 := cell_atD H9.out.1.2.1 1 (v := .int .i64 0) rfl
        have x2 := cell_atD H9.out.1.2.1 2 (v := .int .i64 0) rfl
        have x3 := cell_atD H9.out.1.2.1 3 (v := .slice none 0 0) rfl
        have x4 := cell_atD H9.out.1.2.1 4 (v := .slice none 0 0) rfl
        have xf : ∀ j, w9.frozen? ⟨w.heap.size + 2, j, none⟩ = false := fun j => by simp [World.frozen?, H9.out.1.2.1]
        have d0 := cell_atD H9.out.2.1 0 (v := .int .i64 F.e) rfl
        have d1 := cell_atD H9.out.2.1 1 (v := .int .i64 F.b) rfl
        have d2 := cell_atD H9.out.2.1 2 (v := .int .i64 F.k) rfl
        have d3 := cell_atD H9.out.2.1 3 (v := .slice a2 F.M.length p2) rfl
        have d4 := cell_atD H9.out.2.1 4 (v := .slice a3 F.C.length p3) rfl
        have hq3 := H9.out.1.2.2.2.2
        have hqx := H9.out.2.2.2
        have n1 : Nq ≠ w.heap.size + 1 := by omega
        have n2 : Nq ≠ w.heap.size + 2 := by omega
        have n3 : Nx ≠ w.heap.size + 1 := by omega
        have n4 : Nx ≠ w.heap.size + 2 := by omega
        have m1 := n1.symm
        have m2 := n2.symm
        have m3 := n3.symm
        have m4 := n4.symm
        have A1 : (w9.setCell ⟨w.heap.size + 1, 0, none⟩ (.string ⟨S.s.toArray⟩)).heap[w.heap.size + 1]? = some (.cells #[.string ⟨S.s.toArray⟩, .int .i64 0] 35) := heap_set_self H9.out.1.1 0 _
        have A2 : ((w9.setCell ⟨w.heap.size + 1, 0, none⟩ (.string ⟨S.s.toArray⟩)).setCell ⟨w.heap.size + 1, 1, none⟩ (.int .i64 S.e)).heap[w.heap.size + 1]? = some (.cells #[.string ⟨S.s.toArray⟩, .int .i64 S.e] 35) := heap_set_self A1 1 _
        have AO : Only (w.heap.size + 1) w9 ((w9.setCell ⟨w.heap.size + 1, 0, none⟩ (.string ⟨S.s.toArray⟩)).setCell ⟨w.heap.size + 1, 1, none⟩ (.int .i64 S.e)) := ((Only.refl _ _).set 0 _).set 1 _
        have hC1 := (AO.block _ (lt_heap H9.out.1.2.1) (by omega)).trans H9.out.1.2.1
        have g1 : (((w9.setCell ⟨w.heap.size + 1, 0, none⟩ (.string ⟨S.s.toArray⟩)).setCell ⟨w.heap.size + 1, 1, none⟩ (.int .i64 S.e)).setCell ⟨w.heap.size + 2, 0, none⟩ (.int .i64 F.e)).heap[w.heap.size + 2]? = some (.cells #[.int .i64 F.e, .int .i64 0, .int .i64 0, .slice none 0 0, .slice none 0 0] 24) := heap_set_self hC1 0 _
        have g2 : ((((w9.setCell ⟨w.heap.size + 1, 0, none⟩ (.string ⟨S.s.toArray⟩)).setCell ⟨w.heap.size + 1, 1, none⟩ (.int .i64 S.e)).setCell ⟨w.heap.size + 2, 0, none⟩ (.int .i64 F.e)).setCell ⟨w.heap.size + 2, 1, none⟩ (.int .i64 F.b)).heap[w.heap.size + 2]? = some (.cells #[.int .i64 F.e, .int .i64 F.b, .int .i64 0, .slice none 0 0, .slice none 0 0] 24) := heap_set_self g1 1 _
        have g3 : (((((w9.setCell ⟨w.heap.size + 1, 0, none⟩ (.string ⟨S.s.toArray⟩)).setCell ⟨w.heap.size + 1, 1, none⟩ (.int .i64 S.e)).setCell ⟨w.heap.size + 2, 0, none⟩ (.int .i64 F.e)).setCell ⟨w.heap.size + 2, 1, none⟩ (.int .i64 F.b)).setCell ⟨w.heap.size + 2, 2, none⟩ (.int .i64 F.k)).heap[w.heap.size + 2]? = some (.cells #[.int .i64 F.e, .int .i64 F.b, .int .i64 F.k, .slice none 0 0, .slice none 0 0] 24) := heap_set_self g2 2 _
        have g4 : ((((((w9.setCell ⟨w.heap.size + 1, 0, none⟩ (.string ⟨S.s.toArray⟩)).setCell ⟨w.heap.size + 1, 1, none⟩ (.int .i64 S.e)).setCell ⟨w.heap.size + 2, 0, none⟩ (.int .i64 F.e)).setCell ⟨w.heap.size + 2, 1, none⟩ (.int .i64 F.b)).setCell ⟨w.heap.size + 2, 2, none⟩ (.int .i64 F.k)).setCell ⟨w.heap.size + 2, 3, none⟩ (.slice a2 F.M.length p2)).heap[w.heap.size + 2]? = some (.cells #[.int .i64 F.e, .int .i64 F.b, .int .i64 F.k, .slice a2 F.M.length p2, .slice none 0 0] 24) := heap_set_self g3 3 _
        have g5 : (((((((w9.setCell ⟨w.heap.size + 1, 0, none⟩ (.string ⟨S.s.toArray⟩)).setCell ⟨w.heap.size + 1, 1, none⟩ (.int .i64 S.e)).setCell ⟨w.heap.size + 2, 0, none⟩ (.int .i64 F.e)).setCell ⟨w.heap.size + 2, 1, none⟩ (.int .i64 F.b)).setCell ⟨w.heap.size + 2, 2, none⟩ (.int .i64 F.k)).setCell ⟨w.heap.size + 2, 3, none⟩ (.slice a2 F.M.length p2)).setCell ⟨w.heap.size + 2, 4, none⟩ (.slice a3 F.C.length p3)).heap[w.heap.size + 2]? = some (.cells #[.int .i64 F.e, .int .i64 F.b, .int .i64 F.k, .slice a2 F.M.length p2, .slice a3 F.C.length p3] 24) := heap_set_self g4 4 _
        have gO : Only (w.heap.size + 2) ((w9.setCell ⟨w.heap.size + 1, 0, none⟩ (.string ⟨S.s.toArray⟩)).setCell ⟨w.heap.size + 1, 1, none⟩ (.int .i64 S.e)) (((((((w9.setCell ⟨w.heap.size + 1, 0, none⟩ (.string ⟨S.s.toArray⟩)).setCell ⟨w.heap.size + 1, 1, none⟩ (.int .i64 S.e)).setCell ⟨w.heap.size + 2, 0, none⟩ (.int .i64 F.e)).setCell ⟨w.heap.size + 2, 1, none⟩ (.int .i64 F.b)).setCell ⟨w.heap.size + 2, 2, none⟩ (.int .i64 F.k)).setCell ⟨w.heap.size + 2, 3, none⟩ (.slice a2 F.M.length p2)).setCell ⟨w.heap.size + 2, 4, none⟩ (.slice a3 F.C.length p3)) := (((((Only.refl _ _).set 0 _).set 1 _).set 2 _).set 3 _).set 4 _
        have GI := Lib.hid (And.intro ((gO.block _ (lt_heap A2) (by omega)).trans A2) g5)
        have GO := Lib.hid (And.intro AO gO)
        clear A1 A2 AO hC1 g1 g2 g3 g4 g5 gO
        have A1 : (w9.setCell ⟨w.heap.size + 1, 0, none⟩ (.string ⟨S.s.toArray⟩)).heap[w.heap.size + 1]? = some (.cells #[.string ⟨S.s.toArray⟩, .int .i64 0] 35) := heap_set_self H9.out.1.1 0 _
        have A2 : ((w9.setCell ⟨w.heap.size + 1, 0, none⟩ (.string ⟨S.s.toArray⟩)).setCell ⟨w.heap.size + 1, 1, none⟩ (.int .i64 S.e)).heap[w.heap.size + 1]? = some (.cells #[.string ⟨S.s.toArray⟩, .int .i64 S.e] 35) := heap_set_self A1 1 _
        have AO : Only (w.heap.size + 1) w9 ((w9.setCell ⟨w.heap.size + 1, 0, none⟩ (.string ⟨S.s.toArray⟩)).setCell ⟨w.heap.size + 1, 1, none⟩ (.int .i64 S.e)) := ((Only.refl _ _).set 0 _).set 1 _
        have C1 : (w9.setCell ⟨w.heap.size + 2, 0, none⟩ (.int .i64 F.e)).heap[w.heap.size + 2]? = some (.cells #[.int .i64 F.e, .int .i64 0, .int .i64 0, .slice none 0 0, .slice none 0 0] 24) := heap_set_self H9.out.1.2.1 0 _
        have C2 : ((w9.setCell ⟨w.heap.size + 2, 0, none⟩ (.int .i64 F.e)).setCell ⟨w.heap.size + 2, 1, none⟩ (.int .i64 F.b)).heap[w.heap.size + 2]? = some (.cells #[.int .i64 F.e, .int .i64 F.b, .int .i64 0, .slice none 0 0, .slice none 0 0] 24) := heap_set_self C1 1 _
        have C3 : (((w9.setCell ⟨w.heap.size + 2, 0, none⟩ (.int .i64 F.e)).setCell ⟨w.heap.size + 2, 1, none⟩ (.int .i64 F.b)).setCell ⟨w.heap.size + 2, 2, none⟩ (.int .i64 F.k)).heap[w.heap.size + 2]? = some (.cells #[.int .i64 F.e, .int .i64 F.b, .int .i64 F.k, .slice none 0 0, .slice none 0 0] 24) := heap_set_self C2 2 _
        have C4 : ((((w9.setCell ⟨w.heap.size + 2, 0, none⟩ (.int .i64 F.e)).setCell ⟨w.heap.size + 2, 1, none⟩ (.int .i64 F.b)).setCell ⟨w.heap.size + 2, 2, none⟩ (.int .i64 F.k)).setCell ⟨w.heap.size + 2, 3, none⟩ (.slice a2 F.M.length p2)).heap[w.heap.size + 2]? = some (.cells #[.int .i64 F.e, .int .i64 F.b, .int .i64 F.k, .slice a2 F.M.length p2, .slice none 0 0] 24) := heap_set_self C3 3 _
        have C5 : (((((w9.setCell ⟨w.heap.size + 2, 0, none⟩ (.int .i64 F.e)).setCell ⟨w.heap.size + 2, 1, none⟩ (.int .i64 F.b)).setCell ⟨w.heap.size + 2, 2, none⟩ (.int .i64 F.k)).setCell ⟨w.heap.size + 2, 3, none⟩ (.slice a2 F.M.length p2)).setCell ⟨w.heap.size + 2, 4, none⟩ (.slice a3 F.C.length p3)).heap[w.heap.size + 2]? = some (.cells #[.int .i64 F.e, .int .i64 F.b, .int .i64 F.k, .slice a2 F.M.length p2, .slice a3 F.C.length p3] 24) := heap_set_self C4 4 _
        have CO : Only (w.heap.size + 2) w9 (((((w9.setCell ⟨w.heap.size + 2, 0, none⟩ (.int .i64 F.e)).setCell ⟨w.heap.size + 2, 1, none⟩ (.int .i64 F.b)).setCell ⟨w.heap.size + 2, 2, none⟩ (.int .i64 F.k)).setCell ⟨w.heap.size + 2, 3, none⟩ (.slice a2 F.M.length p2)).setCell ⟨w.heap.size + 2, 4, none⟩ (.slice a3 F.C.length p3)) := (((((Only.refl _ _).set 0 _).set 1 _).set 2 _).set 3 _).set 4 _
        have pAx := (AO.block Nx (lt_heap H9.out.2.1) (by omega)).trans H9.out.2.1
        have ax0 := cell_atD pAx 0 (v := .int .i64 F.e) rfl
        have ax1 := cell_atD pAx 1 (v := .int .i64 F.b) rfl
        have ax2 := cell_atD pAx 2 (v := .int .i64 F.k) rfl
        have ax3 := cell_atD pAx 3 (v := .slice a2 F.M.length p2) rfl
        have ax4 := cell_atD pAx 4 (v := .slice a3 F.C.length p3) rfl
        have pAc := (AO.block (w.heap.size + 2) (lt_heap H9.out.1.2.1) (by omega)).trans H9.out.1.2.1
        have ac0 := cell_atD pAc 0 (v := .int .i64 0) rfl
        have ac1 := cell_atD pAc 1 (v := .int .i64 0) rfl
        have ac2 := cell_atD pAc 2 (v := .int .i64 0) rfl
        have ac3 := cell_atD pAc 3 (v := .slice none 0 0) rfl
        have ac4 := cell_atD pAc 4 (v := .slice none 0 0) rfl
        have acf : ∀ j, ((w9.setCell ⟨w.heap.size + 1, 0, none⟩ (.string ⟨S.s.toArray⟩)).setCell ⟨w.heap.size + 1, 1, none⟩ (.int .i64 S.e)).frozen? ⟨w.heap.size + 2, j, none⟩ = false := fun j => by simp [World.frozen?, pAc]
        have pCq := (CO.block Nq (lt_heap H9.out.1.2.2.1) (by omega)).trans H9.out.1.2.2.1
        have cq0 := cell_atD pCq 0 (v := .string ⟨S.s.toArray⟩) rfl
        have cq1 := cell_atD pCq 1 (v := .int .i64 S.e) rfl
        have pCr := (CO.block (w.heap.size + 1) (lt_heap H9.out.1.1) (by omega)).trans H9.out.1.1
        have cr0 := cell_atD pCr 0 (v := .string ⟨#[]⟩) rfl
        have cr1 := cell_atD pCr 1 (v := .int .i64 0) rfl
        have crf : ∀ j, (((((w9.setCell ⟨w.heap.size + 2, 0, none⟩ (.int .i64 F.e)).setCell ⟨w.heap.size + 2, 1, none⟩ (.int .i64 F.b)).setCell ⟨w.heap.size + 2, 2, none⟩ (.int .i64 F.k)).setCell ⟨w.heap.size + 2, 3, none⟩ (.slice a2 F.M.length p2)).setCell ⟨w.heap.size + 2, 4, none⟩ (.slice a3 F.C.length p3)).frozen? ⟨w.heap.size + 1, j, none⟩ = false := fun j => by simp [World.frozen?, pCr]
        clear A1 A2 AO pAx pAc pCq pCr CO C1 C2 C3 C4 C5
        have HFIN := Lib.hid (show (((((((w9.setCell ⟨w.heap.size + 1, 0, none⟩ (.string ⟨S.s.toArray⟩)).setCell ⟨w.heap.size + 1, 1, none⟩ (.int .i64 S.e)).setCell ⟨w.heap.size + 2, 0, none⟩ (.int .i64 F.e)).setCell ⟨w.heap.size + 2, 1, none⟩ (.int .i64 F.b)).setCell ⟨w.heap.size + 2, 2, none⟩ (.int .i64 F.k)).setCell ⟨w.heap.size + 2, 3, none⟩ (.slice a2 F.M.length p2)).setCell ⟨w.heap.size + 2, 4, none⟩ (.slice a3 F.C.length p3)).drew.heap[w.heap.size + 1]? = some (.cells #[.string ⟨S.s.toArray⟩, .int .i64 S.e] 35) ∧ (((((((w9.setCell ⟨w.heap.size + 1, 0, none⟩ (.string ⟨S.s.toArray⟩)).setCell ⟨w.heap.size + 1, 1, none⟩ (.int .i64 S.e)).setCell ⟨w.heap.size + 2, 0, none⟩ (.int .i64 F.e)).setCell ⟨w.heap.size + 2, 1, none⟩ (.int .i64 F.b)).setCell ⟨w.heap.size + 2, 2, none⟩ (.int .i64 F.k)).setCell ⟨w.heap.size + 2, 3, none⟩ (.slice a2 F.M.length p2)).setCell ⟨w.heap.size + 2, 4, none⟩ (.slice a3 F.C.length p3)).drew.heap[w.heap.size + 2]? = some (.cells #[.int .i64 F.e, .int .i64 F.b, .int .i64 F.k, .slice a2 F.M.length p2, .slice a3 F.C.length p3] 24) ∧ CFO F w.heap.size (((((((w9.setCell ⟨w.heap.size + 1, 0, none⟩ (.string ⟨S.s.toArray⟩)).setCell ⟨w.heap.size + 1, 1, none⟩ (.int .i64 S.e)).setCell ⟨w.heap.size + 2, 0, none⟩ (.int .i64 F.e)).setCell ⟨w.heap.size + 2, 1, none⟩ (.int .i64 F.b)).setCell ⟨w.heap.size + 2, 2, none⟩ (.int .i64 F.k)).setCell ⟨w.heap.size + 2, 3, none⟩ (.slice a2 F.M.length p2)).setCell ⟨w.heap.size + 2, 4, none⟩ (.slice a3 F.C.length p3)).drew (.slice a2 F.M.length p2) (.slice a3 F.C.length p3) ∧ Below w.heap.size w (((((((w9.setCell ⟨w.heap.size + 1, 0, none⟩ (.string ⟨S.s.toArray⟩)).setCell ⟨w.heap.size + 1, 1, none⟩ (.int .i64 S.e)).setCell ⟨w.heap.size + 2, 0, none⟩ (.int .i64 F.e)).setCell ⟨w.heap.size + 2, 1, none⟩ (.int .i64 F.b)).setCell ⟨w.heap.size + 2, 2, none⟩ (.int .i64 F.k)).setCell ⟨w.heap.size + 2, 3, none⟩ (.slice a2 F.M.length p2)).setCell ⟨w.heap.size + 2, 4, none⟩ (.slice a3 F.C.length p3)).drew from
          drew_end GI.out.1 GI.out.2 (CFO.base (((H9.out.2.2.1).only GO.out.1 (by omega)).only GO.out.2 (by omega)) (by omega)) ((H9.out.1.2.2.2.1.trans (GO.out.1.below (by omega) H9.out.1.2.2.2.1.size)).trans (GO.out.2.below (by omega) (Nat.le_trans H9.out.1.2.2.2.1.size GO.out.1.size))))
        clear GI GO hq3 hqx
        go_upto_region 11 with fail
        go_region
        all_goals
          clear ax0 ax1 ax2 ax3 ax4 ac0 ac1 ac2 ac3 ac4 acf cq0 cq1 cr0 cr1 crf
          clear z0 z1 zf x0 x1 x2 x3 x4 xf d0 d1 d2 d3 d4 n1 n2 n3 n4 m1 m2 m3 m4 b0 b1 bf
          go_wp2_with fail
          generalize (((((((w9.setCell ⟨w.heap.size + 1, 0, none⟩ (.string ⟨S.s.toArray⟩)).setCell ⟨w.heap.size + 1, 1, none⟩ (.int .i64 S.e)).setCell ⟨w.heap.size + 2, 0, none⟩ (.int .i64 F.e)).setCell ⟨w.heap.size + 2, 1, none⟩ (.int .i64 F.b)).setCell ⟨w.heap.size + 2, 2, none⟩ (.int .i64 F.k)).setCell ⟨w.heap.size + 2, 3, none⟩ (.slice a2 F.M.length p2)).setCell ⟨w.heap.size + 2, 4, none⟩ (.slice a3 F.C.length p3)).drew = wf at *
          obtain ⟨fi, fj, hL, hbf⟩ := HFIN.out
          have y0 := cell_atD fi 0 (v := .string ⟨S.s.toArray⟩) rfl
          have y1 := cell_atD fi 1 (v := .int .i64 S.e) rfl
          have t0 := cell_atD fj 0 (v := .int .i64 F.e) rfl
          have t1 := cell_atD fj 1 (v := .int .i64 F.b) rfl
          have t2 := cell_atD fj 2 (v := .int .i64 F.k) rfl
          have t3 := cell_atD fj 3 (v := .slice a2 F.M.length p2) rfl
          have t4 := cell_atD fj 4 (v := .slice a3 F.C.length p3) rfl
          clear fi fj
          refine bodyPost_ret (v := .tuple #[.agg #[.string ⟨S.s.toArray⟩, .int .i64 S.e], .agg #[.int .i64 F.e, .int .i64 F.b, .int .i64 F.k, .slice a2 F.M.length p2, .slice a3 F.C.length p3]]) (by simp [results, Try.results57, go_sem, y0, y1, t0, t1, t2, t3, t4]) rfl ?_
          exact ⟨a2, p2, a3, p3, rfl, hL, hbf⟩
    · have hn3 : ((nH : Int) != 3) = true := by simp only [bne_iff_ne, ne_eq]; omega
      obtain ⟨hSf, hFz⟩ := HA.out.2.1 hE0.out (by rw [HNH.out]; exact h3)
      have cf := rfail q3 3 w7
      rw [← hSf] at cf
      have HFz := Lib.hid hFz
      unfold rC at cf
      clear hSf hFz h3
      go_wp2_with fail
      refine Calls.mono cf ?_
      rintro ev w8 ⟨rfl, hb8⟩
      have H8 := Lib.hid (H7.out.below hb8)
      clear b0 b1 bf cf hb8
      have z0 := cell_atD H8.out.1 0 (v := .string ⟨#[]⟩) rfl
      have z1 := cell_atD H8.out.1 1 (v := .int .i64 0) rfl
      have zf : ∀ j, w8.frozen? ⟨w.heap.size + 1, j, none⟩ = false := fun j => by simp [World.frozen?, H8.out.1]
      have x0 := cell_atD H8.out.2.1 0 (v := .int .i64 0) rfl
      have x1 := cell_atD H8.out.2.1 1 (v := .int .i64 0) rfl
      have x2 := cell_atD H8.out.2.1 2 (v := .int .i64 0) rfl
      have x3 := cell_atD H8.out.2.1 3 (v := .slice none 0 0) rfl
      have x4 := cell_atD H8.out.2.1 4 (v := .slice none 0 0) rfl
      have xf : ∀ j, w8.frozen? ⟨w.heap.size + 2, j, none⟩ = false := fun j => by simp [World.frozen?, H8.out.2.1]
      have A1 : (w8.setCell ⟨w.heap.size + 1, 0, none⟩ (.string ⟨S.s.toArray⟩)).heap[w.heap.size + 1]? = some (.cells #[.string ⟨S.s.toArray⟩, .int .i64 0] 35) := heap_set_self H8.out.1 0 _
      have A2 : ((w8.setCell ⟨w.heap.size + 1, 0, none⟩ (.string ⟨S.s.toArray⟩)).setCell ⟨w.heap.size + 1, 1, none⟩ (.int .i64 S.e)).heap[w.heap.size + 1]? = some (.cells #[.string ⟨S.s.toArray⟩, .int .i64 S.e] 35) := heap_set_self A1 1 _
      have AO : Only (w.heap.size + 1) w8 ((w8.setCell ⟨w.heap.size + 1, 0, none⟩ (.string ⟨S.s.toArray⟩)).setCell ⟨w.heap.size + 1, 1, none⟩ (.int .i64 S.e)) := ((Only.refl _ _).set 0 _).set 1 _
      have hC1 := (AO.block _ (lt_heap H8.out.2.1) (by omega)).trans H8.out.2.1
      have g1 : (((w8.setCell ⟨w.heap.size + 1, 0, none⟩ (.string ⟨S.s.toArray⟩)).setCell ⟨w.heap.size + 1, 1, none⟩ (.int .i64 S.e)).setCell ⟨w.heap.size + 2, 0, none⟩ (.int .i64 0)).heap[w.heap.size + 2]? = some (.cells #[.int .i64 0, .int .i64 0, .int .i64 0, .slice none 0 0, .slice none 0 0] 24) := heap_set_self hC1 0 _
      have g2 : ((((w8.setCell ⟨w.heap.size + 1, 0, none⟩ (.string ⟨S.s.toArray⟩)).setCell ⟨w.heap.size + 1, 1, none⟩ (.int .i64 S.e)).setCell ⟨w.heap.size + 2, 0, none⟩ (.int .i64 0)).setCell ⟨w.heap.size + 2, 1, none⟩ (.int .i64 0)).heap[w.heap.size + 2]? = some (.cells #[.int .i64 0, .int .i64 0, .int .i64 0, .slice none 0 0, .slice none 0 0] 24) := heap_set_self g1 1 _
      have g3 : (((((w8.setCell ⟨w.heap.size + 1, 0, none⟩ (.string ⟨S.s.toArray⟩)).setCell ⟨w.heap.size + 1, 1, none⟩ (.int .i64 S.e)).setCell ⟨w.heap.size + 2, 0, none⟩ (.int .i64 0)).setCell ⟨w.heap.size + 2, 1, none⟩ (.int .i64 0)).setCell ⟨w.heap.size + 2, 2, none⟩ (.int .i64 0)).heap[w.heap.size + 2]? = some (.cells #[.int .i64 0, .int .i64 0, .int .i64 0, .slice none 0 0, .slice none 0 0] 24) := heap_set_self g2 2 _
      have g4 : ((((((w8.setCell ⟨w.heap.size + 1, 0, none⟩ (.string ⟨S.s.toArray⟩)).setCell ⟨w.heap.size + 1, 1, none⟩ (.int .i64 S.e)).setCell ⟨w.heap.size + 2, 0, none⟩ (.int .i64 0)).setCell ⟨w.heap.size + 2, 1, none⟩ (.int .i64 0)).setCell ⟨w.heap.size + 2, 2, none⟩ (.int .i64 0)).setCell ⟨w.heap.size + 2, 3, none⟩ (.slice none 0 0)).heap[w.heap.size + 2]? = some (.cells #[.int .i64 0, .int .i64 0, .int .i64 0, .slice none 0 0, .slice none 0 0] 24) := heap_set_self g3 3 _
      have g5 : (((((((w8.setCell ⟨w.heap.size + 1, 0, none⟩ (.string ⟨S.s.toArray⟩)).setCell ⟨w.heap.size + 1, 1, none⟩ (.int .i64 S.e)).setCell ⟨w.heap.size + 2, 0, none⟩ (.int .i64 0)).setCell ⟨w.heap.size + 2, 1, none⟩ (.int .i64 0)).setCell ⟨w.heap.size + 2, 2, none⟩ (.int .i64 0)).setCell ⟨w.heap.size + 2, 3, none⟩ (.slice none 0 0)).setCell ⟨w.heap.size + 2, 4, none⟩ (.slice none 0 0)).heap[w.heap.size + 2]? = some (.cells #[.int .i64 0, .int .i64 0, .int .i64 0, .slice none 0 0, .slice none 0 0] 24) := heap_set_self g4 4 _
      have gO : Only (w.heap.size + 2) ((w8.setCell ⟨w.heap.size + 1, 0, none⟩ (.string ⟨S.s.toArray⟩)).setCell ⟨w.heap.size + 1, 1, none⟩ (.int .i64 S.e)) (((((((w8.setCell ⟨w.heap.size + 1, 0, none⟩ (.string ⟨S.s.toArray⟩)).setCell ⟨w.heap.size + 1, 1, none⟩ (.int .i64 S.e)).setCell ⟨w.heap.size + 2, 0, none⟩ (.int .i64 0)).setCell ⟨w.heap.size + 2, 1, none⟩ (.int .i64 0)).setCell ⟨w.heap.size + 2, 2, none⟩ (.int .i64 0)).setCell ⟨w.heap.size + 2, 3, none⟩ (.slice none 0 0)).setCell ⟨w.heap.size + 2, 4, none⟩ (.slice none 0 0)) := (((((Only.refl _ _).set 0 _).set 1 _).set 2 _).set 3 _).set 4 _
      have GI := Lib.hid (And.intro ((gO.block _ (lt_heap A2) (by omega)).trans A2) g5)
      have GO := Lib.hid (And.intro AO gO)
      clear A1 A2 AO hC1 g1 g2 g3 g4 g5 gO
      go_wp2_with fail
      generalize (((((((w8.setCell ⟨w.heap.size + 1, 0, none⟩ (.string ⟨S.s.toArray⟩)).setCell ⟨w.heap.size + 1, 1, none⟩ (.int .i64 S.e)).setCell ⟨w.heap.size + 2, 0, none⟩ (.int .i64 0)).setCell ⟨w.heap.size + 2, 1, none⟩ (.int .i64 0)).setCell ⟨w.heap.size + 2, 2, none⟩ (.int .i64 0)).setCell ⟨w.heap.size + 2, 3, none⟩ (.slice none 0 0)).setCell ⟨w.heap.size + 2, 4, none⟩ (.slice none 0 0)) = wf at *
      generalize ((w8.setCell ⟨w.heap.size + 1, 0, none⟩ (.string ⟨S.s.toArray⟩)).setCell ⟨w.heap.size + 1, 1, none⟩ (.int .i64 S.e)) = wm at *
      obtain ⟨fi, fj⟩ := GI.out
      have y0 := cell_atD fi 0 (v := .string ⟨S.s.toArray⟩) rfl
      have y1 := cell_atD fi 1 (v := .int .i64 S.e) rfl
      have t0 := cell_atD fj 0 (v := .int .i64 0) rfl
      have t1 := cell_atD fj 1 (v := .int .i64 0) rfl
      have t2 := cell_atD fj 2 (v := .int .i64 0) rfl
      have t3 := cell_atD fj 3 (v := .slice none 0 0) rfl
      have t4 := cell_atD fj 4 (v := .slice none 0 0) rfl
      clear fi fj
      refine bodyPost_ret (v := .tuple #[.agg #[.string ⟨S.s.toArray⟩, .int .i64 S.e], .agg #[.int .i64 0, .int .i64 0, .int .i64 0, .slice none 0 0, .slice none 0 0]]) (by simp [results, Try.results57, go_sem, y0, y1, t0, t1, t2, t3, t4]) rfl ?_
      refine ⟨none, 0, none, 0, by rw [HFz.out]; rfl, by rw [HFz.out]; exact ⟨World.ownsRow_nil _ _ _ _, World.ownsRow_nil _ _ _ _⟩, (H8.out.2.2.2.1.trans (GO.out.1.below (by omega) H8.out.2.2.2.1.size)).trans (GO.out.2.below (by omega) (Nat.le_trans H8.out.2.2.2.1.size GO.out.1.size))⟩
  · have u1 : (q3.e != 0) = true := by simpa using hE
    obtain ⟨hSf, hFz⟩ := HA.out.1 hE
    have HFz := Lib.hid (And.intro hSf hFz)
    clear hE hSf hFz
    have A1 : (w7.setCell ⟨w.heap.size + 1, 0, none⟩ (.string ⟨q3.s.toArray⟩)).heap[w.heap.size + 1]? = some (.cells #[.string ⟨q3.s.toArray⟩, .int .i64 0] 35) := heap_set_self H7.out.1 0 _
    have A2 : ((w7.setCell ⟨w.heap.size + 1, 0, none⟩ (.string ⟨q3.s.toArray⟩)).setCell ⟨w.heap.size + 1, 1, none⟩ (.int .i64 q3.e)).heap[w.heap.size + 1]? = some (.cells #[.string ⟨q3.s.toArray⟩, .int .i64 q3.e] 35) := heap_set_self A1 1 _
    have AO : Only (w.heap.size + 1) w7 ((w7.setCell ⟨w.heap.size + 1, 0, none⟩ (.string ⟨q3.s.toArray⟩)).setCell ⟨w.heap.size + 1, 1, none⟩ (.int .i64 q3.e)) := ((Only.refl _ _).set 0 _).set 1 _
    have hC1 := (AO.block _ (lt_heap H7.out.2.1) (by omega)).trans H7.out.2.1
    have g1 : (((w7.setCell ⟨w.heap.size + 1, 0, none⟩ (.string ⟨q3.s.toArray⟩)).setCell ⟨w.heap.size + 1, 1, none⟩ (.int .i64 q3.e)).setCell ⟨w.heap.size + 2, 0, none⟩ (.int .i64 0)).heap[w.heap.size + 2]? = some (.cells #[.int .i64 0, .int .i64 0, .int .i64 0, .slice none 0 0, .slice none 0 0] 24) := heap_set_self hC1 0 _
    have g2 : ((((w7.setCell ⟨w.heap.size + 1, 0, none⟩ (.string ⟨q3.s.toArray⟩)).setCell ⟨w.heap.size + 1, 1, none⟩ (.int .i64 q3.e)).setCell ⟨w.heap.size + 2, 0, none⟩ (.int .i64 0)).setCell ⟨w.heap.size + 2, 1, none⟩ (.int .i64 0)).heap[w.heap.size + 2]? = some (.cells #[.int .i64 0, .int .i64 0, .int .i64 0, .slice none 0 0, .slice none 0 0] 24) := heap_set_self g1 1 _
    have g3 : (((((w7.setCell ⟨w.heap.size + 1, 0, none⟩ (.string ⟨q3.s.toArray⟩)).setCell ⟨w.heap.size + 1, 1, none⟩ (.int .i64 q3.e)).setCell ⟨w.heap.size + 2, 0, none⟩ (.int .i64 0)).setCell ⟨w.heap.size + 2, 1, none⟩ (.int .i64 0)).setCell ⟨w.heap.size + 2, 2, none⟩ (.int .i64 0)).heap[w.heap.size + 2]? = some (.cells #[.int .i64 0, .int .i64 0, .int .i64 0, .slice none 0 0, .slice none 0 0] 24) := heap_set_self g2 2 _
    have g4 : ((((((w7.setCell ⟨w.heap.size + 1, 0, none⟩ (.string ⟨q3.s.toArray⟩)).setCell ⟨w.heap.size + 1, 1, none⟩ (.int .i64 q3.e)).setCell ⟨w.heap.size + 2, 0, none⟩ (.int .i64 0)).setCell ⟨w.heap.size + 2, 1, none⟩ (.int .i64 0)).setCell ⟨w.heap.size + 2, 2, none⟩ (.int .i64 0)).setCell ⟨w.heap.size + 2, 3, none⟩ (.slice none 0 0)).heap[w.heap.size + 2]? = some (.cells #[.int .i64 0, .int .i64 0, .int .i64 0, .slice none 0 0, .slice none 0 0] 24) := heap_set_self g3 3 _
    have g5 : (((((((w7.setCell ⟨w.heap.size + 1, 0, none⟩ (.string ⟨q3.s.toArray⟩)).setCell ⟨w.heap.size + 1, 1, none⟩ (.int .i64 q3.e)).setCell ⟨w.heap.size + 2, 0, none⟩ (.int .i64 0)).setCell ⟨w.heap.size + 2, 1, none⟩ (.int .i64 0)).setCell ⟨w.heap.size + 2, 2, none⟩ (.int .i64 0)).setCell ⟨w.heap.size + 2, 3, none⟩ (.slice none 0 0)).setCell ⟨w.heap.size + 2, 4, none⟩ (.slice none 0 0)).heap[w.heap.size + 2]? = some (.cells #[.int .i64 0, .int .i64 0, .int .i64 0, .slice none 0 0, .slice none 0 0] 24) := heap_set_self g4 4 _
    have gO : Only (w.heap.size + 2) ((w7.setCell ⟨w.heap.size + 1, 0, none⟩ (.string ⟨q3.s.toArray⟩)).setCell ⟨w.heap.size + 1, 1, none⟩ (.int .i64 q3.e)) (((((((w7.setCell ⟨w.heap.size + 1, 0, none⟩ (.string ⟨q3.s.toArray⟩)).setCell ⟨w.heap.size + 1, 1, none⟩ (.int .i64 q3.e)).setCell ⟨w.heap.size + 2, 0, none⟩ (.int .i64 0)).setCell ⟨w.heap.size + 2, 1, none⟩ (.int .i64 0)).setCell ⟨w.heap.size + 2, 2, none⟩ (.int .i64 0)).setCell ⟨w.heap.size + 2, 3, none⟩ (.slice none 0 0)).setCell ⟨w.heap.size + 2, 4, none⟩ (.slice none 0 0)) := (((((Only.refl _ _).set 0 _).set 1 _).set 2 _).set 3 _).set 4 _
    have GI := Lib.hid (And.intro ((gO.block _ (lt_heap A2) (by omega)).trans A2) g5)
    have GO := Lib.hid (And.intro AO gO)
    clear A1 A2 AO hC1 g1 g2 g3 g4 g5 gO
    go_wp2_with fail
    generalize (((((((w7.setCell ⟨w.heap.size + 1, 0, none⟩ (.string ⟨q3.s.toArray⟩)).setCell ⟨w.heap.size + 1, 1, none⟩ (.int .i64 q3.e)).setCell ⟨w.heap.size + 2, 0, none⟩ (.int .i64 0)).setCell ⟨w.heap.size + 2, 1, none⟩ (.int .i64 0)).setCell ⟨w.heap.size + 2, 2, none⟩ (.int .i64 0)).setCell ⟨w.heap.size + 2, 3, none⟩ (.slice none 0 0)).setCell ⟨w.heap.size + 2, 4, none⟩ (.slice none 0 0)) = wf at *
    generalize ((w7.setCell ⟨w.heap.size + 1, 0, none⟩ (.string ⟨q3.s.toArray⟩)).setCell ⟨w.heap.size + 1, 1, none⟩ (.int .i64 q3.e)) = wm at *
    obtain ⟨fi, fj⟩ := GI.out
    have y0 := cell_atD fi 0 (v := .string ⟨q3.s.toArray⟩) rfl
    have y1 := cell_atD fi 1 (v := .int .i64 q3.e) rfl
    have t0 := cell_atD fj 0 (v := .int .i64 0) rfl
    have t1 := cell_atD fj 1 (v := .int .i64 0) rfl
    have t2 := cell_atD fj 2 (v := .int .i64 0) rfl
    have t3 := cell_atD fj 3 (v := .slice none 0 0) rfl
    have t4 := cell_atD fj 4 (v := .slice none 0 0) rfl
    clear fi fj
    refine bodyPost_ret (v := .tuple #[.agg #[.string ⟨q3.s.toArray⟩, .int .i64 q3.e], .agg #[.int .i64 0, .int .i64 0, .int .i64 0, .slice none 0 0, .slice none 0 0]]) (by simp [results, Try.results57, go_sem, y0, y1, t0, t1, t2, t3, t4]) rfl ?_
    refine ⟨none, 0, none, 0, by rw [HFz.out.1, HFz.out.2]; rfl, by rw [HFz.out.2]; exact ⟨World.ownsRow_nil _ _ _ _, World.ownsRow_nil _ _ _ _⟩, (H7.out.2.2.2.1.trans (GO.out.1.below (by omega) H7.out.2.2.2.1.size)).trans (GO.out.2.below (by omega) (Nat.le_trans H7.out.2.2.2.1.size GO.out.1.size))⟩
end Go.Proofs.Ytjaaddjbmimjoaa
