/-
  Several texts, laid together.
-/
import Derived.Test.YtjaaddjbmimjoaaMh8
import Derived.Test.YtjaaddjbmimjoaaShelf
/-
  Copies of configurations that share no list: own.Conf.
-/


namespace Go.Proofs.Ytjaaddjbmimjoaa
open Go.RowKit
set_option linter.unusedVariables false
set_option linter.unusedSimpArgs false

theorem clone_ownD (l : List Int) (w : World) (v : Value) (hv : SR w v 1 l.length (nCells l)) (hl : l.length ≤ 1000) :
    Calls Try.prog 111 #[v] w fun e w' => ∃ v', e = .returned v' ∧ w'.ownsRow w.heap.size 3 1 v' l.length (nCells l) ∧ Below w.heap.size w w' := by
  obtain ⟨a, cap, rfl, h1, h2, h3, h4⟩ := hv
  rcases h4 with h0 | ⟨b, off, rfl, hb, hc⟩
  · have : l = [] := List.eq_nil_of_length_eq_zero h0
    subst this
    cases a with
    | none =>
      refine (Try.slices_Clone_int_nil 0 cap w).mono ?_
      rintro e w' ⟨rfl, rfl⟩
      exact ⟨_, rfl, World.ownsRow_nil _ _ _ _, Below.refl _ _⟩
    | some ad =>
      refine (Try.slices_Clone_int_zero ad cap w).mono ?_
      rintro e w' ⟨v', rfl, ho, -, hb⟩
      exact ⟨v', rfl, ho, hb⟩
  · refine (Try.slices_Clone_int b off l.length cap l w (Nat.le_refl _) (by omega) (fun j hj => hc j _ (by simp [nCells, hj, List.getD]))).mono ?_
    rintro e w' ⟨v', rfl, ho, -, hb⟩
    rw [List.take_length] at ho
    exact ⟨v', rfl, ho, hb⟩
theorem cell_atD {w : World} {b : Nat} {A : Array Value} {t : TypeId} {fr : Nat × Nat} (h : w.heap[b]? = some (.cells A t fr)) (i : Nat) {v : Value} (hv : A[i]? = some v) : w.cell? ⟨b, i, none⟩ = some v := by
  simp [World.cell?, h, hv]
theorem owns_baseD {w : World} {a b n size : Nat} {e : TypeId} {v : Value} {xs : List Value} (h : w.ownsRow a e size v n xs) (hb : b ≤ a) : w.ownsRow b e size v n xs := by
  refine ⟨h.1, ?_⟩
  rcases h.2 with q | ⟨g, cap, cur, rfl, hg, r⟩
  · exact .inl q
  · exact .inr ⟨g, cap, cur, rfl, Nat.le_trans hb hg, r⟩
/-- a row from so far on stays where only a block ahead of it changes -/
theorem own_onlyD {w w' : World} {base y n size : Nat} {e : TypeId} {v : Value} {xs : List Value} (h : w.ownsRow base e size v n xs) (ho : Only y w w') (hy : y < base) : w'.ownsRow base e size v n xs := by
  refine ⟨h.1, ?_⟩
  rcases h.2 with q | ⟨g, cap, cur, rfl, hg, hc, r⟩
  · exact .inl q
  · exact .inr ⟨g, cap, cur, rfl, hg, (ho.block g (lt_heap hc) (by omega)).trans hc, r⟩
def confZ : Array Value := confA 0 0 0 (.slice none 0 0) (.slice none 0 0)
/-- a configuration copied: the same numbers, lists that read the same -/
def CO (M C : List Int) (base : Nat) (w : World) (v1 v2 : Value) : Prop := w.ownsRow base 3 1 v1 M.length (nCells M) ∧ w.ownsRow base 3 1 v2 C.length (nCells C)
def OConfPost (e b k : Int) (M C : List Int) (w : World) (ev : Ending) (w' : World) : Prop :=
  ∃ v1 v2, ev = .returned (.agg (confA e b k v1 v2)) ∧ CO M C w.heap.size w' v1 v2 ∧ Below w.heap.size w w'
set_option maxHeartbeats 1600000 in
set_option maxRecDepth 20000 in
theorem oconf (e b k : Int) (m c : Value) (M C : List Int) (w : World) (hm : SR w m 1 M.length (nCells M)) (hc : SR w c 1 C.length (nCells C)) (hM : M.length ≤ 1000) (hC : C.length ≤ 1000) :
    Calls Try.prog 90 #[.agg (confA e b k m c)] w (OConfPost e b k M C w) := by
  obtain ⟨ma, mq, rfl, -, -⟩ := hm.form
  obtain ⟨ca, cq, rfl, -, -⟩ := hc.form
  have hb : Below w.heap.size w ((w.alloc (.cells (confA e b k (.slice ma M.length mq) (.slice ca C.length cq)) 24)).alloc (.cells confZ 24)) := ((Below.refl _ _).alloc (Nat.le_refl _) _).alloc (by simp) _
  have hx := alloc_far (o := .cells confZ 24) (heap_alloc_self w (.cells (confA e b k (.slice ma M.length mq) (.slice ca C.length cq)) 24))
  have hy := heap_alloc_self (w.alloc (.cells (confA e b k (.slice ma M.length mq) (.slice ca C.length cq)) 24)) (.cells confZ 24)
  have hz : (w.alloc (.cells (confA e b k (.slice ma M.length mq) (.slice ca C.length cq)) 24)).heap.size = w.heap.size + 1 := by simp
  have hz2 : ((w.alloc (.cells (confA e b k (.slice ma M.length mq) (.slice ca C.length cq)) 24)).alloc (.cells confZ 24)).heap.size = w.heap.size + 2 := by simp
  rw [hz] at hy
  unfold confZ at *
  unfold confA at *
  go_enter Try.func90, Try.ntmps90
  go_upto_region 1 with fail
  generalize (w.alloc (.cells #[.int .i64 e, .int .i64 b, .int .i64 k, .slice ma M.length mq, .slice ca C.length cq] 24)).alloc (.cells #[.int .i64 0, .int .i64 0, .int .i64 0, .slice none 0 0, .slice none 0 0] 24) = w1 at *
  have d3 := cell_atD hx 3 (v := .slice ma M.length mq) rfl
  have HX := Lib.hid (And.intro hx (And.intro hy (And.intro hb (And.intro hz2 (And.intro hm hc)))))
  have c1 := clone_ownD M w1 _ (hm.below hb) hM
  clear hx hy hb hz hz2 hm hc
  go_wp2_with fail
  refine Calls.mono c1 ?_
  rintro ev w2 ⟨v1, rfl, ho1, hb1⟩
  obtain ⟨hx, hy, hb, hz2, hm, hc⟩ := HX.out
  obtain ⟨a1, q1, rfl⟩ := owns_form ho1
  have hx2 := below_at hb1 (lt_heap hx) hx
  have hy2 := below_at hb1 (lt_heap hy) hy
  have f2 : ∀ i, w2.frozen? ⟨w.heap.size, i, none⟩ = false := fun i => by simp [World.frozen?, hx2]
  have q3 := cell_atD hx2 3 (v := .slice ma M.length mq) rfl
  have hs2 : w.heap.size + 2 ≤ w2.heap.size := by have := hb1.size; omega
  have hb2 : Below w.heap.size w w2 := hb.trans (hb1.mono (by omega))
  rw [hz2] at ho1
  have hx3 : (w2.setCell ⟨w.heap.size, 3, none⟩ (.slice a1 M.length q1)).heap[w.heap.size]? = some (.cells #[.int .i64 e, .int .i64 b, .int .i64 k, .slice a1 M.length q1, .slice ca C.length cq] 24) := heap_set_self hx2 3 _
  have hy3 : (w2.setCell ⟨w.heap.size, 3, none⟩ (.slice a1 M.length q1)).heap[w.heap.size + 1]? = some _ := set_far hy2 (by simp)
  have hb3 : Below w.heap.size w (w2.setCell ⟨w.heap.size, 3, none⟩ (.slice a1 M.length q1)) := hb2.setCell (by simp) _
  have ho3 : (w2.setCell ⟨w.heap.size, 3, none⟩ (.slice a1 M.length q1)).ownsRow (w.heap.size + 2) 3 1 (.slice a1 M.length q1) M.length (nCells M) := ownsRow_setCell_below ho1 (by simp) _
  have hs3 : w.heap.size + 2 ≤ (w2.setCell ⟨w.heap.size, 3, none⟩ (.slice a1 M.length q1)).heap.size := by simpa using hs2
  have HX3 := Lib.hid (And.intro hx3 (And.intro hy3 (And.intro hb3 (And.intro ho3 (And.intro hs3 (And.intro hm hc))))))
  clear hx hy hb hz2 hm hc HX hx2 hy2 hs2 hb2 hx3 hy3 hb3 ho3 hs3 ho1 hb1 c1
  go_upto_region 2 with fail
  generalize w2.setCell ⟨w.heap.size, 3, none⟩ (.slice a1 M.length q1) = w3 at *
  clear f2 q3 d3
  obtain ⟨hx3, hy3, hb3, ho3, hs3, hm, hc⟩ := HX3.out
  have d4 := cell_atD hx3 4 (v := .slice ca C.length cq) rfl
  have c2 := clone_ownD C w3 _ (hc.below hb3) hC
  clear hx3 hy3 hb3 ho3 hs3 hm hc
  go_wp2_with fail
  refine Calls.mono c2 ?_
  rintro ev w4 ⟨v2, rfl, ho2, hb4'⟩
  obtain ⟨hx3, hy3, hb3, ho3, hs3, hm, hc⟩ := HX3.out
  obtain ⟨a2, q2, rfl⟩ := owns_form ho2
  have hx4 := below_at hb4' (lt_heap hx3) hx3
  have hy4 := below_at hb4' (lt_heap hy3) hy3
  have f4 : ∀ i, w4.frozen? ⟨w.heap.size, i, none⟩ = false := fun i => by simp [World.frozen?, hx4]
  have q4 := cell_atD hx4 4 (v := .slice ca C.length cq) rfl
  have ho4 := owns_below ho3 hb4'
  have hs4 : w.heap.size + 2 ≤ w4.heap.size := by have := hb4'.size; omega
  have hb4 : Below w.heap.size w w4 := hb3.trans (hb4'.mono (by omega))
  have ho2' : w4.ownsRow (w.heap.size + 2) 3 1 (.slice a2 C.length q2) C.length (nCells C) := owns_baseD ho2 hs3
  have hx5 : (w4.setCell ⟨w.heap.size, 4, none⟩ (.slice a2 C.length q2)).heap[w.heap.size]? = some (.cells #[.int .i64 e, .int .i64 b, .int .i64 k, .slice a1 M.length q1, .slice a2 C.length q2] 24) := heap_set_self hx4 4 _
  have hy5 : (w4.setCell ⟨w.heap.size, 4, none⟩ (.slice a2 C.length q2)).heap[w.heap.size + 1]? = some _ := set_far hy4 (by simp)
  have hb5 : Below w.heap.size w (w4.setCell ⟨w.heap.size, 4, none⟩ (.slice a2 C.length q2)) := hb4.setCell (by simp) _
  have ho5 : (w4.setCell ⟨w.heap.size, 4, none⟩ (.slice a2 C.length q2)).ownsRow (w.heap.size + 2) 3 1 (.slice a1 M.length q1) M.length (nCells M) := ownsRow_setCell_below ho4 (by simp) _
  have ho6 : (w4.setCell ⟨w.heap.size, 4, none⟩ (.slice a2 C.length q2)).ownsRow (w.heap.size + 2) 3 1 (.slice a2 C.length q2) C.length (nCells C) := ownsRow_setCell_below ho2' (by simp) _
  have HX5 := Lib.hid (And.intro hx5 (And.intro hy5 (And.intro hb5 (And.intro ho5 ho6))))
  clear hx3 hy3 hb3 ho3 hs3 hm hc HX3 hx4 hy4 hs4 hb4 hb4' ho4 ho2 ho2' hx5 hy5 hb5 ho5 ho6 c2
  go_upto_region 3 with fail
  generalize w4.setCell ⟨w.heap.size, 4, none⟩ (.slice a2 C.length q2) = wq at *
  clear f4 q4 d4
  obtain ⟨hx, hq, hb, ho1, ho2⟩ := HX5.out
  have e0 := cell_atD hx 0 (v := .int .i64 e) rfl
  have e1 := cell_atD hx 1 (v := .int .i64 b) rfl
  have e2 := cell_atD hx 2 (v := .int .i64 k) rfl
  have e3 := cell_atD hx 3 (v := .slice a1 M.length q1) rfl
  have e4 := cell_atD hx 4 (v := .slice a2 C.length q2) rfl
  have d0 := cell_atD hq 0 (v := .int .i64 0) rfl
  have d1 := cell_atD hq 1 (v := .int .i64 0) rfl
  have d2 := cell_atD hq 2 (v := .int .i64 0) rfl
  have d3 := cell_atD hq 3 (v := .slice none 0 0) rfl
  have d4 := cell_atD hq 4 (v := .slice none 0 0) rfl
  have gq : ∀ j, wq.frozen? ⟨w.heap.size + 1, j, none⟩ = false := fun j => by simp [World.frozen?, hq]
  have FI := Lib.hid (show (((((wq.setCell ⟨w.heap.size + 1, 0, none⟩ (.int .i64 e)).setCell ⟨w.heap.size + 1, 1, none⟩ (.int .i64 b)).setCell ⟨w.heap.size + 1, 2, none⟩ (.int .i64 k)).setCell ⟨w.heap.size + 1, 3, none⟩ (.slice a1 M.length q1)).setCell ⟨w.heap.size + 1, 4, none⟩ (.slice a2 C.length q2)).heap[w.heap.size + 1]? = some (.cells #[.int .i64 e, .int .i64 b, .int .i64 k, .slice a1 M.length q1, .slice a2 C.length q2] 24) from heap_set_self (heap_set_self (heap_set_self (heap_set_self (heap_set_self hq 0 _) 1 _) 2 _) 3 _) 4 _)
  have FO := Lib.hid (show Only (w.heap.size + 1) wq (((((wq.setCell ⟨w.heap.size + 1, 0, none⟩ (.int .i64 e)).setCell ⟨w.heap.size + 1, 1, none⟩ (.int .i64 b)).setCell ⟨w.heap.size + 1, 2, none⟩ (.int .i64 k)).setCell ⟨w.heap.size + 1, 3, none⟩ (.slice a1 M.length q1)).setCell ⟨w.heap.size + 1, 4, none⟩ (.slice a2 C.length q2)) from (((((Only.refl _ _).set 0 _).set 1 _).set 2 _).set 3 _).set 4 _)
  have HY := Lib.hid (And.intro (lt_heap hq) (And.intro hb (And.intro ho1 ho2)))
  clear hx hq hb ho1 ho2 HX5
  go_wp2_with fail
  generalize (((((wq.setCell ⟨w.heap.size + 1, 0, none⟩ (.int .i64 e)).setCell ⟨w.heap.size + 1, 1, none⟩ (.int .i64 b)).setCell ⟨w.heap.size + 1, 2, none⟩ (.int .i64 k)).setCell ⟨w.heap.size + 1, 3, none⟩ (.slice a1 M.length q1)).setCell ⟨w.heap.size + 1, 4, none⟩ (.slice a2 C.length q2)) = wf at *
  have fi := FI.out
  have s0 := cell_atD fi 0 (v := .int .i64 e) rfl
  have s1 := cell_atD fi 1 (v := .int .i64 b) rfl
  have s2 := cell_atD fi 2 (v := .int .i64 k) rfl
  have s3 := cell_atD fi 3 (v := .slice a1 M.length q1) rfl
  have s4 := cell_atD fi 4 (v := .slice a2 C.length q2) rfl
  clear fi
  refine bodyPost_ret (v := .agg #[.int .i64 e, .int .i64 b, .int .i64 k, .slice a1 M.length q1, .slice a2 C.length q2]) (by simp [results, Try.results90, go_sem, s0, s1, s2, s3, s4]) rfl ?_
  obtain ⟨hl, hb, ho1, ho2⟩ := HY.out
  have hf : Below w.heap.size w wf := hb.trans (FO.out.below (B := w.heap.size) (by omega) hb.size)
  exact ⟨_, _, rfl, ⟨owns_baseD (own_onlyD ho1 FO.out (by omega)) (by omega), owns_baseD (own_onlyD ho2 FO.out (by omega)) (by omega)⟩, hf⟩
end Go.Proofs.Ytjaaddjbmimjoaa
/-
  States copied: own.State.
-/

namespace Go.Proofs.Ytjaaddjbmimjoaa
open Go.RowKit
set_option linter.unusedVariables false
set_option linter.unusedSimpArgs false

/-- a configuration's numbers and lists -/
structure CF where
  e : Int
  b : Int
  k : Int
  M : List Int
  C : List Int
def CF.z : CF := ⟨0, 0, 0, [], []⟩
/-- a state: its epoch, what is seen, the configuration that works, the next one -/
structure DS where
  ep : Int
  s0 : Int
  s1 : Int
  a : CF
  n : CF
def DS.z : DS := ⟨0, 0, 0, .z, .z⟩
/-- the two lists of a configuration lie so -/
def CFat (c : CF) (w : World) (v1 v2 : Value) : Prop := SR w v1 1 c.M.length (nCells c.M) ∧ SR w v2 1 c.C.length (nCells c.C)
theorem CFat.below {c : CF} {w w' : World} {v1 v2 : Value} (h : CFat c w v1 v2) (hb : Below w.heap.size w w') : CFat c w' v1 v2 := ⟨h.1.below hb, h.2.below hb⟩
theorem CFat.form {c : CF} {w : World} {v1 v2 : Value} (h : CFat c w v1 v2) : ∃ a1 q1 a2 q2, v1 = .slice a1 c.M.length q1 ∧ v2 = .slice a2 c.C.length q2 := by
  obtain ⟨a1, q1, e1, -⟩ := h.1.form
  obtain ⟨a2, q2, e2, -⟩ := h.2.form
  exact ⟨a1, q1, a2, q2, e1, e2⟩
def stA (ep : Int) (a : CF) (v1 v2 : Value) (n : CF) (v3 v4 : Value) (s0 s1 : Int) : Array Value :=
  #[.int .i64 ep, .int .i64 a.e, .int .i64 a.b, .int .i64 a.k, v1, v2, .int .i64 n.e, .int .i64 n.b, .int .i64 n.k, v3, v4, .int .i64 s0, .int .i64 s1]
def short (c : CF) : Prop := c.M.length ≤ 1000 ∧ c.C.length ≤ 1000
/-- a value is a state in this world -/
def SV (s : DS) (w : World) (v : Value) : Prop :=
  ∃ v1 v2 v3 v4, v = .agg (stA s.ep s.a v1 v2 s.n v3 v4 s.s0 s.s1) ∧ CFat s.a w v1 v2 ∧ CFat s.n w v3 v4 ∧ short s.a ∧ short s.n
theorem SV.below {s : DS} {w w' : World} {v : Value} (h : SV s w v) (hb : Below w.heap.size w w') : SV s w' v := by
  obtain ⟨v1, v2, v3, v4, rfl, h1, h2, h3⟩ := h
  exact ⟨v1, v2, v3, v4, rfl, h1.below hb, h2.below hb, h3⟩
def CFO (c : CF) (base : Nat) (w : World) (v1 v2 : Value) : Prop := CO c.M c.C base w v1 v2
theorem CFO.at_ {c : CF} {base : Nat} {w : World} {v1 v2 : Value} (h : CFO c base w v1 v2) : CFat c w v1 v2 := ⟨SR.owns h.1, SR.owns h.2⟩
theorem CFO.only {c : CF} {base y : Nat} {w w' : World} {v1 v2 : Value} (h : CFO c base w v1 v2) (ho : Only y w w') (hy : y < base) : CFO c base w' v1 v2 := ⟨own_onlyD h.1 ho hy, own_onlyD h.2 ho hy⟩
theorem CFO.below {c : CF} {base : Nat} {w w' : World} {v1 v2 : Value} (h : CFO c base w v1 v2) (hb : Below w.heap.size w w') : CFO c base w' v1 v2 := ⟨owns_below h.1 hb, owns_below h.2 hb⟩
/-- the same, its lists in rows from so far on -/
def SVB (s : DS) (base : Nat) (w : World) (v : Value) : Prop :=
  ∃ v1 v2 v3 v4, v = .agg (stA s.ep s.a v1 v2 s.n v3 v4 s.s0 s.s1) ∧ CFO s.a base w v1 v2 ∧ CFO s.n base w v3 v4 ∧ short s.a ∧ short s.n
theorem SVB.sv {s : DS} {base : Nat} {w : World} {v : Value} (h : SVB s base w v) : SV s w v := by
  obtain ⟨v1, v2, v3, v4, rfl, h1, h2, h3⟩ := h
  exact ⟨v1, v2, v3, v4, rfl, h1.at_, h2.at_, h3⟩
theorem SVB.below {s : DS} {base : Nat} {w w' : World} {v : Value} (h : SVB s base w v) (hb : Below w.heap.size w w') : SVB s base w' v := by
  obtain ⟨v1, v2, v3, v4, rfl, h1, h2, h3⟩ := h
  exact ⟨v1, v2, v3, v4, rfl, h1.below hb, h2.below hb, h3⟩
theorem SVB.only {s : DS} {base y : Nat} {w w' : World} {v : Value} (h : SVB s base w v) (ho : Only y w w') (hy : y < base) : SVB s base w' v := by
  obtain ⟨v1, v2, v3, v4, rfl, h1, h2, h3⟩ := h
  exact ⟨v1, v2, v3, v4, rfl, h1.only ho hy, h2.only ho hy, h3⟩
theorem CFO.base {c : CF} {base base' : Nat} {w : World} {v1 v2 : Value} (h : CFO c base w v1 v2) (hb : base' ≤ base) : CFO c base' w v1 v2 := ⟨owns_baseD h.1 hb, owns_baseD h.2 hb⟩
theorem oconf' (c : CF) (v1 v2 : Value) (w : World) (h : CFat c w v1 v2) (hs : short c) :
    Calls Try.prog 90 #[.agg #[.int .i64 c.e, .int .i64 c.b, .int .i64 c.k, v1, v2]] w fun ev w' => ∃ a1 q1 a2 q2, ev = .returned (.agg #[.int .i64 c.e, .int .i64 c.b, .int .i64 c.k, .slice a1 c.M.length q1, .slice a2 c.C.length q2]) ∧ CFO c w.heap.size w' (.slice a1 c.M.length q1) (.slice a2 c.C.length q2) ∧ Below w.heap.size w w' := by
  refine (oconf c.e c.b c.k v1 v2 c.M c.C w h.1 h.2 hs.1 hs.2).mono ?_
  rintro ev w' ⟨u1, u2, rfl, h1, hb⟩
  obtain ⟨a1, q1, rfl⟩ := owns_form h1.1
  obtain ⟨a2, q2, rfl⟩ := owns_form h1.2
  exact ⟨a1, q1, a2, q2, rfl, h1, hb⟩
set_option maxHeartbeats 6400000 in
set_option maxRecDepth 40000 in
theorem ostate (s : DS) (v : Value) (w : World) (h : SV s w v) :
    Calls Try.prog 87 #[v] w fun ev w' => ∃ v', ev = .returned v' ∧ SVB s w.heap.size w' v' ∧ Below w.heap.size w w' := by
  obtain ⟨v1, v2, v3, v4, rfl, h1, h2, h3, h4⟩ := h
  obtain ⟨a1, q1, a2, q2, rfl, rfl⟩ := h1.form
  obtain ⟨a3, q3, a4, q4, rfl, rfl⟩ := h2.form
  have hx := alloc_far (o := .cells #[.int .i64 0, .int .i64 0, .int .i64 0, .int .i64 0, .slice none 0 0, .slice none 0 0, .int .i64 0, .int .i64 0, .int .i64 0, .slice none 0 0, .slice none 0 0, .int .i64 0, .int .i64 0] 42) (heap_alloc_self w (.cells #[.int .i64 s.ep, .int .i64 s.a.e, .int .i64 s.a.b, .int .i64 s.a.k, .slice a1 s.a.M.length q1, .slice a2 s.a.C.length q2, .int .i64 s.n.e, .int .i64 s.n.b, .int .i64 s.n.k, .slice a3 s.n.M.length q3, .slice a4 s.n.C.length q4, .int .i64 s.s0, .int .i64 s.s1] 42))
  have hy := heap_alloc_self (w.alloc (.cells #[.int .i64 s.ep, .int .i64 s.a.e, .int .i64 s.a.b, .int .i64 s.a.k, .slice a1 s.a.M.length q1, .slice a2 s.a.C.length q2, .int .i64 s.n.e, .int .i64 s.n.b, .int .i64 s.n.k, .slice a3 s.n.M.length q3, .slice a4 s.n.C.length q4, .int .i64 s.s0, .int .i64 s.s1] 42)) (.cells #[.int .i64 0, .int .i64 0, .int .i64 0, .int .i64 0, .slice none 0 0, .slice none 0 0, .int .i64 0, .int .i64 0, .int .i64 0, .slice none 0 0, .slice none 0 0, .int .i64 0, .int .i64 0] 42)
  have hz : (w.alloc (.cells #[.int .i64 s.ep, .int .i64 s.a.e, .int .i64 s.a.b, .int .i64 s.a.k, .slice a1 s.a.M.length q1, .slice a2 s.a.C.length q2, .int .i64 s.n.e, .int .i64 s.n.b, .int .i64 s.n.k, .slice a3 s.n.M.length q3, .slice a4 s.n.C.length q4, .int .i64 s.s0, .int .i64 s.s1] 42)).heap.size = w.heap.size + 1 := by simp
  have hz2 : ((w.alloc (.cells #[.int .i64 s.ep, .int .i64 s.a.e, .int .i64 s.a.b, .int .i64 s.a.k, .slice a1 s.a.M.length q1, .slice a2 s.a.C.length q2, .int .i64 s.n.e, .int .i64 s.n.b, .int .i64 s.n.k, .slice a3 s.n.M.length q3, .slice a4 s.n.C.length q4, .int .i64 s.s0, .int .i64 s.s1] 42)).alloc (.cells #[.int .i64 0, .int .i64 0, .int .i64 0, .int .i64 0, .slice none 0 0, .slice none 0 0, .int .i64 0, .int .i64 0, .int .i64 0, .slice none 0 0, .slice none 0 0, .int .i64 0, .int .i64 0] 42)).heap.size = w.heap.size + 2 := by simp
  have hb : Below w.heap.size w ((w.alloc (.cells #[.int .i64 s.ep, .int .i64 s.a.e, .int .i64 s.a.b, .int .i64 s.a.k, .slice a1 s.a.M.length q1, .slice a2 s.a.C.length q2, .int .i64 s.n.e, .int .i64 s.n.b, .int .i64 s.n.k, .slice a3 s.n.M.length q3, .slice a4 s.n.C.length q4, .int .i64 s.s0, .int .i64 s.s1] 42)).alloc (.cells #[.int .i64 0, .int .i64 0, .int .i64 0, .int .i64 0, .slice none 0 0, .slice none 0 0, .int .i64 0, .int .i64 0, .int .i64 0, .slice none 0 0, .slice none 0 0, .int .i64 0, .int .i64 0] 42)) := ((Below.refl _ _).alloc (Nat.le_refl _) _).alloc (by simp) _
  rw [hz] at hy
  unfold stA
  go_enter Try.func87, Try.ntmps87
  go_upto_region 1 with fail
  generalize (w.alloc (.cells #[.int .i64 s.ep, .int .i64 s.a.e, .int .i64 s.a.b, .int .i64 s.a.k, .slice a1 s.a.M.length q1, .slice a2 s.a.C.length q2, .int .i64 s.n.e, .int .i64 s.n.b, .int .i64 s.n.k, .slice a3 s.n.M.length q3, .slice a4 s.n.C.length q4, .int .i64 s.s0, .int .i64 s.s1] 42)).alloc (.cells #[.int .i64 0, .int .i64 0, .int .i64 0, .int .i64 0, .slice none 0 0, .slice none 0 0, .int .i64 0, .int .i64 0, .int .i64 0, .slice none 0 0, .slice none 0 0, .int .i64 0, .int .i64 0] 42) = w1 at *
  have HX := Lib.hid (And.intro hx (And.intro hy (And.intro hb hz2)))
  have d0 := cell_atD hx 0 (v := .int .i64 s.ep) rfl
  have d1 := cell_atD hx 1 (v := .int .i64 s.a.e) rfl
  have d2 := cell_atD hx 2 (v := .int .i64 s.a.b) rfl
  have d3 := cell_atD hx 3 (v := .int .i64 s.a.k) rfl
  have d4 := cell_atD hx 4 (v := .slice a1 s.a.M.length q1) rfl
  have d5 := cell_atD hx 5 (v := .slice a2 s.a.C.length q2) rfl
  have d6 := cell_atD hx 6 (v := .int .i64 s.n.e) rfl
  have d7 := cell_atD hx 7 (v := .int .i64 s.n.b) rfl
  have d8 := cell_atD hx 8 (v := .int .i64 s.n.k) rfl
  have d9 := cell_atD hx 9 (v := .slice a3 s.n.M.length q3) rfl
  have d10 := cell_atD hx 10 (v := .slice a4 s.n.C.length q4) rfl
  have d11 := cell_atD hx 11 (v := .int .i64 s.s0) rfl
  have d12 := cell_atD hx 12 (v := .int .i64 s.s1) rfl
  have c1 := oconf' s.a _ _ w1 (h1.below hb) h3
  clear hx hy hb hz hz2
  go_wp2_with fail
  refine Calls.mono c1 ?_
  rintro ev w2 ⟨a5, q5, a6, q6, rfl, ho, hb2⟩
  clear d0 d1 d2 d3 d4 d5 d6 d7 d8 d9 d10 d11 d12
  clear c1
  obtain ⟨hx, hy, hb, hz2⟩ := HX.out
  rw [hz2] at ho
  have hx2 := below_at hb2 (lt_heap hx) hx
  have hy2 := below_at hb2 (lt_heap hy) hy
  have hs2 : w.heap.size + 2 ≤ w2.heap.size := by have := hb2.size; omega
  have hbb : Below w.heap.size w w2 := hb.trans (hb2.mono (by omega))
  have f2 : ∀ i, w2.frozen? ⟨w.heap.size, i, none⟩ = false := fun i => by simp [World.frozen?, hx2]
  have d0 := cell_atD hx2 0 (v := .int .i64 s.ep) rfl
  have d1 := cell_atD hx2 1 (v := .int .i64 s.a.e) rfl
  have d2 := cell_atD hx2 2 (v := .int .i64 s.a.b) rfl
  have d3 := cell_atD hx2 3 (v := .int .i64 s.a.k) rfl
  have d4 := cell_atD hx2 4 (v := .slice a1 s.a.M.length q1) rfl
  have d5 := cell_atD hx2 5 (v := .slice a2 s.a.C.length q2) rfl
  have d6 := cell_atD hx2 6 (v := .int .i64 s.n.e) rfl
  have d7 := cell_atD hx2 7 (v := .int .i64 s.n.b) rfl
  have d8 := cell_atD hx2 8 (v := .int .i64 s.n.k) rfl
  have d9 := cell_atD hx2 9 (v := .slice a3 s.n.M.length q3) rfl
  have d10 := cell_atD hx2 10 (v := .slice a4 s.n.C.length q4) rfl
  have d11 := cell_atD hx2 11 (v := .int .i64 s.s0) rfl
  have d12 := cell_atD hx2 12 (v := .int .i64 s.s1) rfl
  have FI := Lib.hid (show (((((w2.setCell ⟨w.heap.size, 1, none⟩ (.int .i64 s.a.e)).setCell ⟨w.heap.size, 2, none⟩ (.int .i64 s.a.b)).setCell ⟨w.heap.size, 3, none⟩ (.int .i64 s.a.k)).setCell ⟨w.heap.size, 4, none⟩ (.slice a5 s.a.M.length q5)).setCell ⟨w.heap.size, 5, none⟩ (.slice a6 s.a.C.length q6)).heap[w.heap.size]? = some (.cells #[.int .i64 s.ep, .int .i64 s.a.e, .int .i64 s.a.b, .int .i64 s.a.k, .slice a5 s.a.M.length q5, .slice a6 s.a.C.length q6, .int .i64 s.n.e, .int .i64 s.n.b, .int .i64 s.n.k, .slice a3 s.n.M.length q3, .slice a4 s.n.C.length q4, .int .i64 s.s0, .int .i64 s.s1] 42) from heap_set_self (heap_set_self (heap_set_self (heap_set_self (heap_set_self hx2 1 _) 2 _) 3 _) 4 _) 5 _)
  have FO := Lib.hid (show Only w.heap.size w2 (((((w2.setCell ⟨w.heap.size, 1, none⟩ (.int .i64 s.a.e)).setCell ⟨w.heap.size, 2, none⟩ (.int .i64 s.a.b)).setCell ⟨w.heap.size, 3, none⟩ (.int .i64 s.a.k)).setCell ⟨w.heap.size, 4, none⟩ (.slice a5 s.a.M.length q5)).setCell ⟨w.heap.size, 5, none⟩ (.slice a6 s.a.C.length q6)) from ((((((Only.refl _ _).set 1 _).set 2 _).set 3 _).set 4 _).set 5 _))
  have HY := Lib.hid (And.intro hy2 (And.intro hbb (And.intro hs2 ho)))
  clear hx hy hb hz2 HX hx2 hy2 hs2 hbb ho hb2
  go_upto_region 2 with fail
  generalize (((((w2.setCell ⟨w.heap.size, 1, none⟩ (.int .i64 s.a.e)).setCell ⟨w.heap.size, 2, none⟩ (.int .i64 s.a.b)).setCell ⟨w.heap.size, 3, none⟩ (.int .i64 s.a.k)).setCell ⟨w.heap.size, 4, none⟩ (.slice a5 s.a.M.length q5)).setCell ⟨w.heap.size, 5, none⟩ (.slice a6 s.a.C.length q6)) = w3 at *
  clear d0 d1 d2 d3 d4 d5 d6 d7 d8 d9 d10 d11 d12
  clear f2
  obtain ⟨hy2, hbb, hs2, ho⟩ := HY.out
  have hx := FI.out
  have hy : w3.heap[w.heap.size + 1]? = some _ := (FO.out.block _ (lt_heap hy2) (by omega)).trans hy2
  have hb : Below w.heap.size w w3 := hbb.trans (FO.out.below (B := w.heap.size) (by omega) (by omega))
  have ho3 := ho.only FO.out (by omega)
  have hs3 : w.heap.size + 2 ≤ w3.heap.size := by have := FO.out.size; omega
  have d0 := cell_atD hx 0 (v := .int .i64 s.ep) rfl
  have d1 := cell_atD hx 1 (v := .int .i64 s.a.e) rfl
  have d2 := cell_atD hx 2 (v := .int .i64 s.a.b) rfl
  have d3 := cell_atD hx 3 (v := .int .i64 s.a.k) rfl
  have d4 := cell_atD hx 4 (v := .slice a5 s.a.M.length q5) rfl
  have d5 := cell_atD hx 5 (v := .slice a6 s.a.C.length q6) rfl
  have d6 := cell_atD hx 6 (v := .int .i64 s.n.e) rfl
  have d7 := cell_atD hx 7 (v := .int .i64 s.n.b) rfl
  have d8 := cell_atD hx 8 (v := .int .i64 s.n.k) rfl
  have d9 := cell_atD hx 9 (v := .slice a3 s.n.M.length q3) rfl
  have d10 := cell_atD hx 10 (v := .slice a4 s.n.C.length q4) rfl
  have d11 := cell_atD hx 11 (v := .int .i64 s.s0) rfl
  have d12 := cell_atD hx 12 (v := .int .i64 s.s1) rfl
  have c2 := oconf' s.n _ _ w3 (h2.below hb) h4
  have HX := Lib.hid (And.intro hx (And.intro hy (And.intro hb (And.intro ho3 hs3))))
  clear hy2 hbb hs2 ho hx hy hb ho3 hs3 FI FO HY
  go_wp2_with fail
  refine Calls.mono c2 ?_
  rintro ev w4 ⟨a7, q7, a8, q8, rfl, ho4, hb4⟩
  clear d0 d1 d2 d3 d4 d5 d6 d7 d8 d9 d10 d11 d12
  clear c2
  obtain ⟨hx, hy, hb, ho3, hs3⟩ := HX.out
  have hx4 := below_at hb4 (lt_heap hx) hx
  have hy4 := below_at hb4 (lt_heap hy) hy
  have hs4 : w.heap.size + 2 ≤ w4.heap.size := by have := hb4.size; omega
  have hbb : Below w.heap.size w w4 := hb.trans (hb4.mono (by omega))
  have ho5 := ho3.below hb4
  have ho6 := ho4.base hs3
  have f4 : ∀ i, w4.frozen? ⟨w.heap.size, i, none⟩ = false := fun i => by simp [World.frozen?, hx4]
  have d0 := cell_atD hx4 0 (v := .int .i64 s.ep) rfl
  have d1 := cell_atD hx4 1 (v := .int .i64 s.a.e) rfl
  have d2 := cell_atD hx4 2 (v := .int .i64 s.a.b) rfl
  have d3 := cell_atD hx4 3 (v := .int .i64 s.a.k) rfl
  have d4 := cell_atD hx4 4 (v := .slice a5 s.a.M.length q5) rfl
  have d5 := cell_atD hx4 5 (v := .slice a6 s.a.C.length q6) rfl
  have d6 := cell_atD hx4 6 (v := .int .i64 s.n.e) rfl
  have d7 := cell_atD hx4 7 (v := .int .i64 s.n.b) rfl
  have d8 := cell_atD hx4 8 (v := .int .i64 s.n.k) rfl
  have d9 := cell_atD hx4 9 (v := .slice a3 s.n.M.length q3) rfl
  have d10 := cell_atD hx4 10 (v := .slice a4 s.n.C.length q4) rfl
  have d11 := cell_atD hx4 11 (v := .int .i64 s.s0) rfl
  have d12 := cell_atD hx4 12 (v := .int .i64 s.s1) rfl
  have FI := Lib.hid (show (((((w4.setCell ⟨w.heap.size, 6, none⟩ (.int .i64 s.n.e)).setCell ⟨w.heap.size, 7, none⟩ (.int .i64 s.n.b)).setCell ⟨w.heap.size, 8, none⟩ (.int .i64 s.n.k)).setCell ⟨w.heap.size, 9, none⟩ (.slice a7 s.n.M.length q7)).setCell ⟨w.heap.size, 10, none⟩ (.slice a8 s.n.C.length q8)).heap[w.heap.size]? = some (.cells #[.int .i64 s.ep, .int .i64 s.a.e, .int .i64 s.a.b, .int .i64 s.a.k, .slice a5 s.a.M.length q5, .slice a6 s.a.C.length q6, .int .i64 s.n.e, .int .i64 s.n.b, .int .i64 s.n.k, .slice a7 s.n.M.length q7, .slice a8 s.n.C.length q8, .int .i64 s.s0, .int .i64 s.s1] 42) from heap_set_self (heap_set_self (heap_set_self (heap_set_self (heap_set_self hx4 6 _) 7 _) 8 _) 9 _) 10 _)
  have FO := Lib.hid (show Only w.heap.size w4 (((((w4.setCell ⟨w.heap.size, 6, none⟩ (.int .i64 s.n.e)).setCell ⟨w.heap.size, 7, none⟩ (.int .i64 s.n.b)).setCell ⟨w.heap.size, 8, none⟩ (.int .i64 s.n.k)).setCell ⟨w.heap.size, 9, none⟩ (.slice a7 s.n.M.length q7)).setCell ⟨w.heap.size, 10, none⟩ (.slice a8 s.n.C.length q8)) from ((((((Only.refl _ _).set 6 _).set 7 _).set 8 _).set 9 _).set 10 _))
  have HY := Lib.hid (And.intro hy4 (And.intro hbb (And.intro hs4 (And.intro ho5 ho6))))
  clear hx hy hb ho3 hs3 HX hx4 hy4 hs4 hbb ho5 ho6 ho4 hb4
  go_upto_region 3 with fail
  generalize (((((w4.setCell ⟨w.heap.size, 6, none⟩ (.int .i64 s.n.e)).setCell ⟨w.heap.size, 7, none⟩ (.int .i64 s.n.b)).setCell ⟨w.heap.size, 8, none⟩ (.int .i64 s.n.k)).setCell ⟨w.heap.size, 9, none⟩ (.slice a7 s.n.M.length q7)).setCell ⟨w.heap.size, 10, none⟩ (.slice a8 s.n.C.length q8)) = w5 at *
  clear d0 d1 d2 d3 d4 d5 d6 d7 d8 d9 d10 d11 d12
  clear f4
  obtain ⟨hy4, hbb, hs4, ho5, ho6⟩ := HY.out
  have hx := FI.out
  have hy : w5.heap[w.heap.size + 1]? = some _ := (FO.out.block _ (lt_heap hy4) (by omega)).trans hy4
  have hb : Below w.heap.size w w5 := hbb.trans (FO.out.below (B := w.heap.size) (by omega) (by omega))
  have ho7 := ho5.only FO.out (by omega)
  have ho8 := ho6.only FO.out (by omega)
  have hs5 : w.heap.size + 2 ≤ w5.heap.size := by have := FO.out.size; omega
  have d0 := cell_atD hx 0 (v := .int .i64 s.ep) rfl
  have d1 := cell_atD hx 1 (v := .int .i64 s.a.e) rfl
  have d2 := cell_atD hx 2 (v := .int .i64 s.a.b) rfl
  have d3 := cell_atD hx 3 (v := .int .i64 s.a.k) rfl
  have d4 := cell_atD hx 4 (v := .slice a5 s.a.M.length q5) rfl
  have d5 := cell_atD hx 5 (v := .slice a6 s.a.C.length q6) rfl
  have d6 := cell_atD hx 6 (v := .int .i64 s.n.e) rfl
  have d7 := cell_atD hx 7 (v := .int .i64 s.n.b) rfl
  have d8 := cell_atD hx 8 (v := .int .i64 s.n.k) rfl
  have d9 := cell_atD hx 9 (v := .slice a7 s.n.M.length q7) rfl
  have d10 := cell_atD hx 10 (v := .slice a8 s.n.C.length q8) rfl
  have d11 := cell_atD hx 11 (v := .int .i64 s.s0) rfl
  have d12 := cell_atD hx 12 (v := .int .i64 s.s1) rfl
  have e0 := cell_atD hy 0 (v := .int .i64 0) rfl
  have e1 := cell_atD hy 1 (v := .int .i64 0) rfl
  have e2 := cell_atD hy 2 (v := .int .i64 0) rfl
  have e3 := cell_atD hy 3 (v := .int .i64 0) rfl
  have e4 := cell_atD hy 4 (v := .slice none 0 0) rfl
  have e5 := cell_atD hy 5 (v := .slice none 0 0) rfl
  have e6 := cell_atD hy 6 (v := .int .i64 0) rfl
  have e7 := cell_atD hy 7 (v := .int .i64 0) rfl
  have e8 := cell_atD hy 8 (v := .int .i64 0) rfl
  have e9 := cell_atD hy 9 (v := .slice none 0 0) rfl
  have e10 := cell_atD hy 10 (v := .slice none 0 0) rfl
  have e11 := cell_atD hy 11 (v := .int .i64 0) rfl
  have e12 := cell_atD hy 12 (v := .int .i64 0) rfl
  have gq : ∀ j, w5.frozen? ⟨w.heap.size + 1, j, none⟩ = false := fun j => by simp [World.frozen?, hy]
  have g1 : (w5.setCell ⟨w.heap.size + 1, 0, none⟩ (.int .i64 s.ep)).heap[w.heap.size + 1]? = some (.cells #[.int .i64 s.ep, .int .i64 0, .int .i64 0, .int .i64 0, .slice none 0 0, .slice none 0 0, .int .i64 0, .int .i64 0, .int .i64 0, .slice none 0 0, .slice none 0 0, .int .i64 0, .int .i64 0] 42) := heap_set_self hy 0 _
  have g2 : ((w5.setCell ⟨w.heap.size + 1, 0, none⟩ (.int .i64 s.ep)).setCell ⟨w.heap.size + 1, 1, none⟩ (.int .i64 s.a.e)).heap[w.heap.size + 1]? = some (.cells #[.int .i64 s.ep, .int .i64 s.a.e, .int .i64 0, .int .i64 0, .slice none 0 0, .slice none 0 0, .int .i64 0, .int .i64 0, .int .i64 0, .slice none 0 0, .slice none 0 0, .int .i64 0, .int .i64 0] 42) := heap_set_self g1 1 _
  have g3 : (((w5.setCell ⟨w.heap.size + 1, 0, none⟩ (.int .i64 s.ep)).setCell ⟨w.heap.size + 1, 1, none⟩ (.int .i64 s.a.e)).setCell ⟨w.heap.size + 1, 2, none⟩ (.int .i64 s.a.b)).heap[w.heap.size + 1]? = some (.cells #[.int .i64 s.ep, .int .i64 s.a.e, .int .i64 s.a.b, .int .i64 0, .slice none 0 0, .slice none 0 0, .int .i64 0, .int .i64 0, .int .i64 0, .slice none 0 0, .slice none 0 0, .int .i64 0, .int .i64 0] 42) := heap_set_self g2 2 _
  have g4 : ((((w5.setCell ⟨w.heap.size + 1, 0, none⟩ (.int .i64 s.ep)).setCell ⟨w.heap.size + 1, 1, none⟩ (.int .i64 s.a.e)).setCell ⟨w.heap.size + 1, 2, none⟩ (.int .i64 s.a.b)).setCell ⟨w.heap.size + 1, 3, none⟩ (.int .i64 s.a.k)).heap[w.heap.size + 1]? = some (.cells #[.int .i64 s.ep, .int .i64 s.a.e, .int .i64 s.a.b, .int .i64 s.a.k, .slice none 0 0, .slice none 0 0, .int .i64 0, .int .i64 0, .int .i64 0, .slice none 0 0, .slice none 0 0, .int .i64 0, .int .i64 0] 42) := heap_set_self g3 3 _
  have g5 : (((((w5.setCell ⟨w.heap.size + 1, 0, none⟩ (.int .i64 s.ep)).setCell ⟨w.heap.size + 1, 1, none⟩ (.int .i64 s.a.e)).setCell ⟨w.heap.size + 1, 2, none⟩ (.int .i64 s.a.b)).setCell ⟨w.heap.size + 1, 3, none⟩ (.int .i64 s.a.k)).setCell ⟨w.heap.size + 1, 4, none⟩ (.slice a5 s.a.M.length q5)).heap[w.heap.size + 1]? = some (.cells #[.int .i64 s.ep, .int .i64 s.a.e, .int .i64 s.a.b, .int .i64 s.a.k, .slice a5 s.a.M.length q5, .slice none 0 0, .int .i64 0, .int .i64 0, .int .i64 0, .slice none 0 0, .slice none 0 0, .int .i64 0, .int .i64 0] 42) := heap_set_self g4 4 _
  have g6 : ((((((w5.setCell ⟨w.heap.size + 1, 0, none⟩ (.int .i64 s.ep)).setCell ⟨w.heap.size + 1, 1, none⟩ (.int .i64 s.a.e)).setCell ⟨w.heap.size + 1, 2, none⟩ (.int .i64 s.a.b)).setCell ⟨w.heap.size + 1, 3, none⟩ (.int .i64 s.a.k)).setCell ⟨w.heap.size + 1, 4, none⟩ (.slice a5 s.a.M.length q5)).setCell ⟨w.heap.size + 1, 5, none⟩ (.slice a6 s.a.C.length q6)).heap[w.heap.size + 1]? = some (.cells #[.int .i64 s.ep, .int .i64 s.a.e, .int .i64 s.a.b, .int .i64 s.a.k, .slice a5 s.a.M.length q5, .slice a6 s.a.C.length q6, .int .i64 0, .int .i64 0, .int .i64 0, .slice none 0 0, .slice none 0 0, .int .i64 0, .int .i64 0] 42) := heap_set_self g5 5 _
  have g7 : (((((((w5.setCell ⟨w.heap.size + 1, 0, none⟩ (.int .i64 s.ep)).setCell ⟨w.heap.size + 1, 1, none⟩ (.int .i64 s.a.e)).setCell ⟨w.heap.size + 1, 2, none⟩ (.int .i64 s.a.b)).setCell ⟨w.heap.size + 1, 3, none⟩ (.int .i64 s.a.k)).setCell ⟨w.heap.size + 1, 4, none⟩ (.slice a5 s.a.M.length q5)).setCell ⟨w.heap.size + 1, 5, none⟩ (.slice a6 s.a.C.length q6)).setCell ⟨w.heap.size + 1, 6, none⟩ (.int .i64 s.n.e)).heap[w.heap.size + 1]? = some (.cells #[.int .i64 s.ep, .int .i64 s.a.e, .int .i64 s.a.b, .int .i64 s.a.k, .slice a5 s.a.M.length q5, .slice a6 s.a.C.length q6, .int .i64 s.n.e, .int .i64 0, .int .i64 0, .slice none 0 0, .slice none 0 0, .int .i64 0, .int .i64 0] 42) := heap_set_self g6 6 _
  have g8 : ((((((((w5.setCell ⟨w.heap.size + 1, 0, none⟩ (.int .i64 s.ep)).setCell ⟨w.heap.size + 1, 1, none⟩ (.int .i64 s.a.e)).setCell ⟨w.heap.size + 1, 2, none⟩ (.int .i64 s.a.b)).setCell ⟨w.heap.size + 1, 3, none⟩ (.int .i64 s.a.k)).setCell ⟨w.heap.size + 1, 4, none⟩ (.slice a5 s.a.M.length q5)).setCell ⟨w.heap.size + 1, 5, none⟩ (.slice a6 s.a.C.length q6)).setCell ⟨w.heap.size + 1, 6, none⟩ (.int .i64 s.n.e)).setCell ⟨w.heap.size + 1, 7, none⟩ (.int .i64 s.n.b)).heap[w.heap.size + 1]? = some (.cells #[.int .i64 s.ep, .int .i64 s.a.e, .int .i64 s.a.b, .int .i64 s.a.k, .slice a5 s.a.M.length q5, .slice a6 s.a.C.length q6, .int .i64 s.n.e, .int .i64 s.n.b, .int .i64 0, .slice none 0 0, .slice none 0 0, .int .i64 0, .int .i64 0] 42) := heap_set_self g7 7 _
  have g9 : (((((((((w5.setCell ⟨w.heap.size + 1, 0, none⟩ (.int .i64 s.ep)).setCell ⟨w.heap.size + 1, 1, none⟩ (.int .i64 s.a.e)).setCell ⟨w.heap.size + 1, 2, none⟩ (.int .i64 s.a.b)).setCell ⟨w.heap.size + 1, 3, none⟩ (.int .i64 s.a.k)).setCell ⟨w.heap.size + 1, 4, none⟩ (.slice a5 s.a.M.length q5)).setCell ⟨w.heap.size + 1, 5, none⟩ (.slice a6 s.a.C.length q6)).setCell ⟨w.heap.size + 1, 6, none⟩ (.int .i64 s.n.e)).setCell ⟨w.heap.size + 1, 7, none⟩ (.int .i64 s.n.b)).setCell ⟨w.heap.size + 1, 8, none⟩ (.int .i64 s.n.k)).heap[w.heap.size + 1]? = some (.cells #[.int .i64 s.ep, .int .i64 s.a.e, .int .i64 s.a.b, .int .i64 s.a.k, .slice a5 s.a.M.length q5, .slice a6 s.a.C.length q6, .int .i64 s.n.e, .int .i64 s.n.b, .int .i64 s.n.k, .slice none 0 0, .slice none 0 0, .int .i64 0, .int .i64 0] 42) := heap_set_self g8 8 _
  have g10 : ((((((((((w5.setCell ⟨w.heap.size + 1, 0, none⟩ (.int .i64 s.ep)).setCell ⟨w.heap.size + 1, 1, none⟩ (.int .i64 s.a.e)).setCell ⟨w.heap.size + 1, 2, none⟩ (.int .i64 s.a.b)).setCell ⟨w.heap.size + 1, 3, none⟩ (.int .i64 s.a.k)).setCell ⟨w.heap.size + 1, 4, none⟩ (.slice a5 s.a.M.length q5)).setCell ⟨w.heap.size + 1, 5, none⟩ (.slice a6 s.a.C.length q6)).setCell ⟨w.heap.size + 1, 6, none⟩ (.int .i64 s.n.e)).setCell ⟨w.heap.size + 1, 7, none⟩ (.int .i64 s.n.b)).setCell ⟨w.heap.size + 1, 8, none⟩ (.int .i64 s.n.k)).setCell ⟨w.heap.size + 1, 9, none⟩ (.slice a7 s.n.M.length q7)).heap[w.heap.size + 1]? = some (.cells #[.int .i64 s.ep, .int .i64 s.a.e, .int .i64 s.a.b, .int .i64 s.a.k, .slice a5 s.a.M.length q5, .slice a6 s.a.C.length q6, .int .i64 s.n.e, .int .i64 s.n.b, .int .i64 s.n.k, .slice a7 s.n.M.length q7, .slice none 0 0, .int .i64 0, .int .i64 0] 42) := heap_set_self g9 9 _
  have g11 : (((((((((((w5.setCell ⟨w.heap.size + 1, 0, none⟩ (.int .i64 s.ep)).setCell ⟨w.heap.size + 1, 1, none⟩ (.int .i64 s.a.e)).setCell ⟨w.heap.size + 1, 2, none⟩ (.int .i64 s.a.b)).setCell ⟨w.heap.size + 1, 3, none⟩ (.int .i64 s.a.k)).setCell ⟨w.heap.size + 1, 4, none⟩ (.slice a5 s.a.M.length q5)).setCell ⟨w.heap.size + 1, 5, none⟩ (.slice a6 s.a.C.length q6)).setCell ⟨w.heap.size + 1, 6, none⟩ (.int .i64 s.n.e)).setCell ⟨w.heap.size + 1, 7, none⟩ (.int .i64 s.n.b)).setCell ⟨w.heap.size + 1, 8, none⟩ (.int .i64 s.n.k)).setCell ⟨w.heap.size + 1, 9, none⟩ (.slice a7 s.n.M.length q7)).setCell ⟨w.heap.size + 1, 10, none⟩ (.slice a8 s.n.C.length q8)).heap[w.heap.size + 1]? = some (.cells #[.int .i64 s.ep, .int .i64 s.a.e, .int .i64 s.a.b, .int .i64 s.a.k, .slice a5 s.a.M.length q5, .slice a6 s.a.C.length q6, .int .i64 s.n.e, .int .i64 s.n.b, .int .i64 s.n.k, .slice a7 s.n.M.length q7, .slice a8 s.n.C.length q8, .int .i64 0, .int .i64 0] 42) := heap_set_self g10 10 _
  have g12 : ((((((((((((w5.setCell ⟨w.heap.size + 1, 0, none⟩ (.int .i64 s.ep)).setCell ⟨w.heap.size + 1, 1, none⟩ (.int .i64 s.a.e)).setCell ⟨w.heap.size + 1, 2, none⟩ (.int .i64 s.a.b)).setCell ⟨w.heap.size + 1, 3, none⟩ (.int .i64 s.a.k)).setCell ⟨w.heap.size + 1, 4, none⟩ (.slice a5 s.a.M.length q5)).setCell ⟨w.heap.size + 1, 5, none⟩ (.slice a6 s.a.C.length q6)).setCell ⟨w.heap.size + 1, 6, none⟩ (.int .i64 s.n.e)).setCell ⟨w.heap.size + 1, 7, none⟩ (.int .i64 s.n.b)).setCell ⟨w.heap.size + 1, 8, none⟩ (.int .i64 s.n.k)).setCell ⟨w.heap.size + 1, 9, none⟩ (.slice a7 s.n.M.length q7)).setCell ⟨w.heap.size + 1, 10, none⟩ (.slice a8 s.n.C.length q8)).setCell ⟨w.heap.size + 1, 11, none⟩ (.int .i64 s.s0)).heap[w.heap.size + 1]? = some (.cells #[.int .i64 s.ep, .int .i64 s.a.e, .int .i64 s.a.b, .int .i64 s.a.k, .slice a5 s.a.M.length q5, .slice a6 s.a.C.length q6, .int .i64 s.n.e, .int .i64 s.n.b, .int .i64 s.n.k, .slice a7 s.n.M.length q7, .slice a8 s.n.C.length q8, .int .i64 s.s0, .int .i64 0] 42) := heap_set_self g11 11 _
  have g13 : (((((((((((((w5.setCell ⟨w.heap.size + 1, 0, none⟩ (.int .i64 s.ep)).setCell ⟨w.heap.size + 1, 1, none⟩ (.int .i64 s.a.e)).setCell ⟨w.heap.size + 1, 2, none⟩ (.int .i64 s.a.b)).setCell ⟨w.heap.size + 1, 3, none⟩ (.int .i64 s.a.k)).setCell ⟨w.heap.size + 1, 4, none⟩ (.slice a5 s.a.M.length q5)).setCell ⟨w.heap.size + 1, 5, none⟩ (.slice a6 s.a.C.length q6)).setCell ⟨w.heap.size + 1, 6, none⟩ (.int .i64 s.n.e)).setCell ⟨w.heap.size + 1, 7, none⟩ (.int .i64 s.n.b)).setCell ⟨w.heap.size + 1, 8, none⟩ (.int .i64 s.n.k)).setCell ⟨w.heap.size + 1, 9, none⟩ (.slice a7 s.n.M.length q7)).setCell ⟨w.heap.size + 1, 10, none⟩ (.slice a8 s.n.C.length q8)).setCell ⟨w.heap.size + 1, 11, none⟩ (.int .i64 s.s0)).setCell ⟨w.heap.size + 1, 12, none⟩ (.int .i64 s.s1)).heap[w.heap.size + 1]? = some (.cells #[.int .i64 s.ep, .int .i64 s.a.e, .int .i64 s.a.b, .int .i64 s.a.k, .slice a5 s.a.M.length q5, .slice a6 s.a.C.length q6, .int .i64 s.n.e, .int .i64 s.n.b, .int .i64 s.n.k, .slice a7 s.n.M.length q7, .slice a8 s.n.C.length q8, .int .i64 s.s0, .int .i64 s.s1] 42) := heap_set_self g12 12 _
  have GI := Lib.hid g13
  clear g1 g2 g3 g4 g5 g6 g7 g8 g9 g10 g11 g12 g13
  have GO := Lib.hid (show Only (w.heap.size + 1) w5 (((((((((((((w5.setCell ⟨w.heap.size + 1, 0, none⟩ (.int .i64 s.ep)).setCell ⟨w.heap.size + 1, 1, none⟩ (.int .i64 s.a.e)).setCell ⟨w.heap.size + 1, 2, none⟩ (.int .i64 s.a.b)).setCell ⟨w.heap.size + 1, 3, none⟩ (.int .i64 s.a.k)).setCell ⟨w.heap.size + 1, 4, none⟩ (.slice a5 s.a.M.length q5)).setCell ⟨w.heap.size + 1, 5, none⟩ (.slice a6 s.a.C.length q6)).setCell ⟨w.heap.size + 1, 6, none⟩ (.int .i64 s.n.e)).setCell ⟨w.heap.size + 1, 7, none⟩ (.int .i64 s.n.b)).setCell ⟨w.heap.size + 1, 8, none⟩ (.int .i64 s.n.k)).setCell ⟨w.heap.size + 1, 9, none⟩ (.slice a7 s.n.M.length q7)).setCell ⟨w.heap.size + 1, 10, none⟩ (.slice a8 s.n.C.length q8)).setCell ⟨w.heap.size + 1, 11, none⟩ (.int .i64 s.s0)).setCell ⟨w.heap.size + 1, 12, none⟩ (.int .i64 s.s1)) from ((((((((((((((Only.refl _ _).set 0 _).set 1 _).set 2 _).set 3 _).set 4 _).set 5 _).set 6 _).set 7 _).set 8 _).set 9 _).set 10 _).set 11 _).set 12 _))
  have HZ := Lib.hid (And.intro hb (And.intro hs5 (And.intro ho7 ho8)))
  clear hy4 hbb hs4 ho5 ho6 hx hy hb ho7 ho8 hs5 FI FO HY
  go_wp2_with fail
  generalize (((((((((((((w5.setCell ⟨w.heap.size + 1, 0, none⟩ (.int .i64 s.ep)).setCell ⟨w.heap.size + 1, 1, none⟩ (.int .i64 s.a.e)).setCell ⟨w.heap.size + 1, 2, none⟩ (.int .i64 s.a.b)).setCell ⟨w.heap.size + 1, 3, none⟩ (.int .i64 s.a.k)).setCell ⟨w.heap.size + 1, 4, none⟩ (.slice a5 s.a.M.length q5)).setCell ⟨w.heap.size + 1, 5, none⟩ (.slice a6 s.a.C.length q6)).setCell ⟨w.heap.size + 1, 6, none⟩ (.int .i64 s.n.e)).setCell ⟨w.heap.size + 1, 7, none⟩ (.int .i64 s.n.b)).setCell ⟨w.heap.size + 1, 8, none⟩ (.int .i64 s.n.k)).setCell ⟨w.heap.size + 1, 9, none⟩ (.slice a7 s.n.M.length q7)).setCell ⟨w.heap.size + 1, 10, none⟩ (.slice a8 s.n.C.length q8)).setCell ⟨w.heap.size + 1, 11, none⟩ (.int .i64 s.s0)).setCell ⟨w.heap.size + 1, 12, none⟩ (.int .i64 s.s1)) = wf at *
  have fi := GI.out
  have s0 := cell_atD fi 0 (v := .int .i64 s.ep) rfl
  have s1 := cell_atD fi 1 (v := .int .i64 s.a.e) rfl
  have s2 := cell_atD fi 2 (v := .int .i64 s.a.b) rfl
  have s3 := cell_atD fi 3 (v := .int .i64 s.a.k) rfl
  have s4 := cell_atD fi 4 (v := .slice a5 s.a.M.length q5) rfl
  have s5 := cell_atD fi 5 (v := .slice a6 s.a.C.length q6) rfl
  have s6 := cell_atD fi 6 (v := .int .i64 s.n.e) rfl
  have s7 := cell_atD fi 7 (v := .int .i64 s.n.b) rfl
  have s8 := cell_atD fi 8 (v := .int .i64 s.n.k) rfl
  have s9 := cell_atD fi 9 (v := .slice a7 s.n.M.length q7) rfl
  have s10 := cell_atD fi 10 (v := .slice a8 s.n.C.length q8) rfl
  have s11 := cell_atD fi 11 (v := .int .i64 s.s0) rfl
  have s12 := cell_atD fi 12 (v := .int .i64 s.s1) rfl
  clear fi
  refine bodyPost_ret (v := .agg #[.int .i64 s.ep, .int .i64 s.a.e, .int .i64 s.a.b, .int .i64 s.a.k, .slice a5 s.a.M.length q5, .slice a6 s.a.C.length q6, .int .i64 s.n.e, .int .i64 s.n.b, .int .i64 s.n.k, .slice a7 s.n.M.length q7, .slice a8 s.n.C.length q8, .int .i64 s.s0, .int .i64 s.s1]) (by simp [results, Try.results87, go_sem, s0, s1, s2, s3, s4, s5, s6, s7, s8, s9, s10, s11, s12]) rfl ?_
  obtain ⟨hb, hs5, ho7, ho8⟩ := HZ.out
  exact ⟨_, rfl, ⟨_, _, _, _, rfl, (ho7.only GO.out (by omega)).base (by omega), (ho8.only GO.out (by omega)).base (by omega), h3, h4⟩, hb.trans (GO.out.below (B := w.heap.size) (by omega) (by omega))⟩
end Go.Proofs.Ytjaaddjbmimjoaa
/-
  Configurations: Index, Contains, Mirrors, Chains, Behind, Node, Gate, All.
-/

namespace Go.Proofs.Ytjaaddjbmimjoaa
open Go.RowKit
set_option linter.unusedVariables false

/-- where a number is first; -1: nowhere -/
def ixF (n : Int) : List Int → Nat → Int
  | [], _ => -1
  | x :: t, j => if x = n then j else ixF n t (j + 1)
theorem ix_at (n : Int) : ∀ (l : List Int) (j k : Nat), k < l.length → n ∉ l.take k → l.getD k 0 = n → ixF n l j = (j + k : Nat)
  | [], _, _, h, _, _ => by simp at h
  | x :: t, j, 0, _, _, h => by simp at h; simp [ixF, h]
  | x :: t, j, k + 1, h, hn, hk => by
    simp at hn
    have hx : ¬ (x = n) := fun e => hn.1 e.symm
    simp only [ixF, hx, if_false]
    have := ix_at n t (j + 1) k (by simpa using h) hn.2 (by simpa using hk)
    rw [this]
    omega
theorem ix_none (n : Int) : ∀ (l : List Int) (j : Nat), n ∉ l → ixF n l j = -1
  | [], _, _ => rfl
  | x :: t, j, h => by
    simp at h
    have hx : ¬ (x = n) := fun e => h.1 e.symm
    simp only [ixF, hx, if_false]
    exact ix_none n t (j + 1) h.2
theorem ix_in (n : Int) : ∀ (l : List Int), n ∈ l → ∃ k, k < l.length ∧ n ∉ l.take k ∧ l.getD k 0 = n ∧ ixF n l 0 = (k : Int)
  | l, h => by
    have key : ∀ (l : List Int), n ∈ l → ∃ k, k < l.length ∧ n ∉ l.take k ∧ l.getD k 0 = n := by
      intro l
      induction l with
      | nil => simp
      | cons x t ih =>
        intro h
        by_cases e : x = n
        · exact ⟨0, by simp, by simp, by simp [e]⟩
        · have ht : n ∈ t := by
            rcases List.mem_cons.1 h with h | h
            · exact absurd h.symm e
            · exact h
          obtain ⟨k, h1, h2, h3⟩ := ih ht
          exact ⟨k + 1, by simpa using h1, by simp; exact ⟨fun h => e h.symm, h2⟩, by simpa using h3⟩
    obtain ⟨k, h1, h2, h3⟩ := key l h
    exact ⟨k, h1, h2, h3, by rw [ix_at n l 0 k h1 h2 h3]; simp⟩
theorem ix_bd (n : Int) (l : List Int) : -1 ≤ ixF n l 0 ∧ ixF n l 0 < l.length ∧ (0 ≤ ixF n l 0 ↔ n ∈ l) := by
  by_cases h : n ∈ l
  · obtain ⟨k, h1, _, _, h4⟩ := ix_in n l h
    rw [h4]
    exact ⟨by omega, by omega, by simp [h]⟩
  · rw [ix_none n l 0 h]
    exact ⟨by omega, by omega, by simp [h]⟩
theorem index_any (v : Value) (l : List Int) (n : Int) (w : World) (hv : SR w v 1 l.length (nCells l)) : Calls Try.prog 124 #[v, .int .i64 n] w fun e w' => e = .returned (.int .i64 (ixF n l 0)) ∧ w = w' := by
  obtain ⟨ad, cap, rfl, hlc, hcm⟩ := hv.form
  unfold maxLen at hcm
  have HV := Lib.hid hv
  clear hv
  obtain ⟨r, hr⟩ : ∃ r, r = ixF n l 0 := ⟨_, rfl⟩
  rw [← hr]
  have HR := Lib.hid hr
  clear hr
  go_enter Try.func124, Try.ntmps124
  go_wp2_with fail
  go_loop [8] (fun i => ∃ k : Nat, k ≤ l.length ∧ i = .int .i64 k ∧ NotIn n (l.take k)) (fun i => l.length - (intOf i).toNat)
  case atStart => exact ⟨0, Nat.zero_le _, rfl, by simp [NotIn]⟩
  case round =>
    obtain ⟨k, hk, rfl, hno⟩ := hrel
    have HN := Lib.hid hno
    clear hno
    by_cases hlt : k < l.length
    · obtain ⟨b, off, rfl, hb, hcell⟩ := HV.out.int (by omega)
      have hc := hcell k hlt
      obtain ⟨x, hx⟩ : ∃ x, x = l.getD k 0 := ⟨_, rfl⟩
      rw [← hx] at hc
      have HX := Lib.hid hx
      clear hcell hx
      by_cases he : n = x
      · subst he
        go_wp2_with fail
        go_ret
        refine ⟨ret_int ?_, rfl⟩
        rw [HR.out, ix_at n l 0 k hlt HN.out HX.out.symm]
        simp
      · go_wp2_with fail
        go_round
        case rel =>
          refine ⟨k + 1, by omega, by go_num, fun h => ?_⟩
          rcases (mem_take_succ l k hlt n).1 h with h | h
          · exact HN.out h
          · exact he (h.trans HX.out.symm)
        case measure => simp [intOf]; omega
    · obtain rfl : k = l.length := by omega
      clear hlt
      go_wp2_with fail
      go_ret
      refine ⟨ret_int ?_, rfl⟩
      have := HN.out
      rw [NotIn, List.take_length] at this
      rw [HR.out, ix_none n l 0 this]
theorem contains_any (v : Value) (l : List Int) (n : Int) (w : World) (hv : SR w v 1 l.length (nCells l)) : Calls Try.prog 123 #[v, .int .i64 n] w fun e w' => e = .returned (.bool (decide (n ∈ l))) ∧ w = w' := by
  obtain ⟨ad, cap, rfl, hlc, hcm⟩ := hv.form
  have ci := index_any _ l n w hv
  obtain ⟨h1, h2, h3⟩ := ix_bd n l
  have hd : decide (n ∈ l) = decide (0 ≤ ixF n l 0) := by rw [decide_eq_decide]; exact h3.symm
  rw [hd]
  clear hv hd h3
  generalize ixF n l 0 = r at *
  go_enter Try.func123, Try.ntmps123
  go_wp2_with fail
  refine Calls.mono ci ?_
  rintro e w1 ⟨rfl, rfl⟩
  go_wp2_with fail
  go_ret
  exact ⟨rfl, rfl⟩
theorem cnode_any (n : Int) (w : World) : Calls Try.prog 122 #[.int .i64 n] w fun v w' => v = .returned (.bool (decide (0 ≤ n ∧ n ≤ 4))) ∧ w = w' := by
  go_enter Try.func122, Try.ntmps122
  go_wp2
  all_goals go_ret
  all_goals refine ⟨ret_bool ?_, rfl⟩
  all_goals (apply Bool.eq_iff_iff.mpr; simp; try omega)
theorem cgate_any (n : Int) (w : World) : Calls Try.prog 105 #[.int .i64 n] w fun v w' => v = .returned (.bool (decide (5 ≤ n ∧ n ≤ 6))) ∧ w = w' := by
  go_enter Try.func105, Try.ntmps105
  go_wp2
  all_goals go_ret
  all_goals refine ⟨ret_bool ?_, rfl⟩
  all_goals (apply Bool.eq_iff_iff.mpr; simp; try omega)
end Go.Proofs.Ytjaaddjbmimjoaa
