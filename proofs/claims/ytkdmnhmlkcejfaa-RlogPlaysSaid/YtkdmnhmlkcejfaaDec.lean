/-
  Copies of configurations that share no list: own.Conf.
-/
import Derived.Test.YtkdmnhmlkcejfaaConfB
import Derived.Test.YtkdmnhmlkcejfaaShelf
namespace Go.Proofs.Ytkdmnhmlkcejfaa
open Go.RowKit
set_option linter.unusedVariables false
set_option linter.unusedSimpArgs false

theorem clone_ownD (l : List Int) (w : World) (v : Value) (hv : SR w v 1 l.length (nCells l)) (hl : l.length ≤ 1000) :
    Calls Try.prog 59 #[v] w fun e w' => ∃ v', e = .returned v' ∧ w'.ownsRow w.heap.size 3 1 v' l.length (nCells l) ∧ Below w.heap.size w w' := by
  obtain ⟨a, cap, rfl, h1, h2, h3, h4⟩ := hv
  rcases h4 with h0 | ⟨b, off, rfl, hb, hc⟩
  · have : l = [] := List.eq_nil_of_length_eq_zero h0
    subst this
    cases a with
    | none =>
      refine (Try.slices_Clone_int_nil 0 cap w).mono ?_
      rintro e w' ⟨rfl, rfl⟩
      exact ⟨_, rfl, World.ownsRow_nil _ _ _ _, Below.refl _ _⟩
    | some ad =>
      refine (Try.slices_Clone_int_zero ad cap w).mono ?_
      rintro e w' ⟨v', rfl, ho, -, hb⟩
      exact ⟨v', rfl, ho, hb⟩
  · refine (Try.slices_Clone_int b off l.length cap l w (Nat.le_refl _) (by omega) (fun j hj => hc j _ (by simp [nCells, hj, List.getD]))).mono ?_
    rintro e w' ⟨v', rfl, ho, -, hb⟩
    rw [List.take_length] at ho
    exact ⟨v', rfl, ho, hb⟩
theorem cell_atD {w : World} {b : Nat} {A : Array Value} {t : TypeId} {fr : Nat × Nat} (h : w.heap[b]? = some (.cells A t fr)) (i : Nat) {v : Value} (hv : A[i]? = some v) : w.cell? ⟨b, i, none⟩ = some v := by
  simp [World.cell?, h, hv]
theorem owns_baseD {w : World} {a b n size : Nat} {e : TypeId} {v : Value} {xs : List Value} (h : w.ownsRow a e size v n xs) (hb : b ≤ a) : w.ownsRow b e size v n xs := by
  refine ⟨h.1, ?_⟩
  rcases h.2 with q | ⟨g, cap, cur, rfl, hg, r⟩
  · exact .inl q
  · exact .inr ⟨g, cap, cur, rfl, Nat.le_trans hb hg, r⟩
/-- a row from so far on stays where only a block ahead of it changes -/
theorem own_onlyD {w w' : World} {base y n size : Nat} {e : TypeId} {v : Value} {xs : List Value} (h : w.ownsRow base e size v n xs) (ho : Only y w w') (hy : y < base) : w'.ownsRow base e size v n xs := by
  refine ⟨h.1, ?_⟩
  rcases h.2 with q | ⟨g, cap, cur, rfl, hg, hc, r⟩
  · exact .inl q
  · exact .inr ⟨g, cap, cur, rfl, hg, (ho.block g (lt_heap hc) (by omega)).trans hc, r⟩
def confZ : Array Value := confA 0 0 0 (.slice none 0 0) (.slice none 0 0)
/-- a configuration copied: the same numbers, lists that read the same -/
def CO (M C : List Int) (base : Nat) (w : World) (v1 v2 : Value) : Prop := w.ownsRow base 3 1 v1 M.length (nCells M) ∧ w.ownsRow base 3 1 v2 C.length (nCells C)
def OConfPost (e b k : Int) (M C : List Int) (w : World) (ev : Ending) (w' : World) : Prop :=
  ∃ v1 v2, ev = .returned (.agg (confA e b k v1 v2)) ∧ CO M C w.heap.size w' v1 v2 ∧ Below w.heap.size w w'
set_option maxHeartbeats 1600000 in
set_option maxRecDepth 20000 in
theorem oconf (e b k : Int) (m c : Value) (M C : List Int) (w : World) (hm : SR w m 1 M.length (nCells M)) (hc : SR w c 1 C.length (nCells C)) (hM : M.length ≤ 1000) (hC : C.length ≤ 1000) :
    Calls Try.prog 45 #[.agg (confA e b k m c)] w (OConfPost e b k M C w) := by
  obtain ⟨ma, mq, rfl, -, -⟩ := hm.form
  obtain ⟨ca, cq, rfl, -, -⟩ := hc.form
  have hb : Below w.heap.size w ((w.alloc (.cells (confA e b k (.slice ma M.length mq) (.slice ca C.length cq)) 42)).alloc (.cells confZ 42)) := ((Below.refl _ _).alloc (Nat.le_refl _) _).alloc (by simp) _
  have hx := alloc_far (o := .cells confZ 42) (heap_alloc_self w (.cells (confA e b k (.slice ma M.length mq) (.slice ca C.length cq)) 42))
  have hy := heap_alloc_self (w.alloc (.cells (confA e b k (.slice ma M.length mq) (.slice ca C.length cq)) 42)) (.cells confZ 42)
  have hz : (w.alloc (.cells (confA e b k (.slice ma M.length mq) (.slice ca C.length cq)) 42)).heap.size = w.heap.size + 1 := by simp
  have hz2 : ((w.alloc (.cells (confA e b k (.slice ma M.length mq) (.slice ca C.length cq)) 42)).alloc (.cells confZ 42)).heap.size = w.heap.size + 2 := by simp
  rw [hz] at hy
  unfold confZ at *
  unfold confA at *
  go_enter Try.func45, Try.ntmps45
  go_upto_region 1 with fail
  generalize (w.alloc (.cells #[.int .i64 e, .int .i64 b, .int .i64 k, .slice ma M.length mq, .slice ca C.length cq] 42)).alloc (.cells #[.int .i64 0, .int .i64 0, .int .i64 0, .slice none 0 0, .slice none 0 0] 42) = w1 at *
  have d3 := cell_atD hx 3 (v := .slice ma M.length mq) rfl
  have HX := Lib.hid (And.intro hx (And.intro hy (And.intro hb (And.intro hz2 (And.intro hm hc)))))
  have c1 := clone_ownD M w1 _ (hm.below hb) hM
  clear hx hy hb hz hz2 hm hc
  go_wp2_with fail
  refine Calls.mono c1 ?_
  rintro ev w2 ⟨v1, rfl, ho1, hb1⟩
  obtain ⟨hx, hy, hb, hz2, hm, hc⟩ := HX.out
  obtain ⟨a1, q1, rfl⟩ := owns_form ho1
  have hx2 := below_at hb1 (lt_heap hx) hx
  have hy2 := below_at hb1 (lt_heap hy) hy
  have f2 : ∀ i, w2.frozen? ⟨w.heap.size, i, none⟩ = false := fun i => by simp [World.frozen?, hx2]
  have q3 := cell_atD hx2 3 (v := .slice ma M.length mq) rfl
  have hs2 : w.heap.size + 2 ≤ w2.heap.size := by have := hb1.size; omega
  have hb2 : Below w.heap.size w w2 := hb.trans (hb1.mono (by omega))
  rw [hz2] at ho1
  have hx3 : (w2.setCell ⟨w.heap.size, 3, none⟩ (.slice a1 M.length q1)).heap[w.heap.size]? = some (.cells #[.int .i64 e, .int .i64 b, .int .i64 k, .slice a1 M.length q1, .slice ca C.length cq] 42) := heap_set_self hx2 3 _
  have hy3 : (w2.setCell ⟨w.heap.size, 3, none⟩ (.slice a1 M.length q1)).heap[w.heap.size + 1]? = some _ := set_far hy2 (by simp)
  have hb3 : Below w.heap.size w (w2.setCell ⟨w.heap.size, 3, none⟩ (.slice a1 M.length q1)) := hb2.setCell (by simp) _
  have ho3 : (w2.setCell ⟨w.heap.size, 3, none⟩ (.slice a1 M.length q1)).ownsRow (w.heap.size + 2) 3 1 (.slice a1 M.length q1) M.length (nCells M) := ownsRow_setCell_below ho1 (by simp) _
  have hs3 : w.heap.size + 2 ≤ (w2.setCell ⟨w.heap.size, 3, none⟩ (.slice a1 M.length q1)).heap.size := by simpa using hs2
  have HX3 := Lib.hid (And.intro hx3 (And.intro hy3 (And.intro hb3 (And.intro ho3 (And.intro hs3 (And.intro hm hc))))))
  clear hx hy hb hz2 hm hc HX hx2 hy2 hs2 hb2 hx3 hy3 hb3 ho3 hs3 ho1 hb1 c1
  go_upto_region 2 with fail
  generalize w2.setCell ⟨w.heap.size, 3, none⟩ (.slice a1 M.length q1) = w3 at *
  clear f2 q3 d3
  obtain ⟨hx3, hy3, hb3, ho3, hs3, hm, hc⟩ := HX3.out
  have d4 := cell_atD hx3 4 (v := .slice ca C.length cq) rfl
  have c2 := clone_ownD C w3 _ (hc.below hb3) hC
  clear hx3 hy3 hb3 ho3 hs3 hm hc
  go_wp2_with fail
  refine Calls.mono c2 ?_
  rintro ev w4 ⟨v2, rfl, ho2, hb4'⟩
  obtain ⟨hx3, hy3, hb3, ho3, hs3, hm, hc⟩ := HX3.out
  obtain ⟨a2, q2, rfl⟩ := owns_form ho2
  have hx4 := below_at hb4' (lt_heap hx3) hx3
  have hy4 := below_at hb4' (lt_heap hy3) hy3
  have f4 : ∀ i, w4.frozen? ⟨w.heap.size, i, none⟩ = false := fun i => by simp [World.frozen?, hx4]
  have q4 := cell_atD hx4 4 (v := .slice ca C.length cq) rfl
  have ho4 := owns_below ho3 hb4'
  have hs4 : w.heap.size + 2 ≤ w4.heap.size := by have := hb4'.size; omega
  have hb4 : Below w.heap.size w w4 := hb3.trans (hb4'.mono (by omega))
  have ho2' : w4.ownsRow (w.heap.size + 2) 3 1 (.slice a2 C.length q2) C.length (nCells C) := owns_baseD ho2 hs3
  have hx5 : (w4.setCell ⟨w.heap.size, 4, none⟩ (.slice a2 C.length q2)).heap[w.heap.size]? = some (.cells #[.int .i64 e, .int .i64 b, .int .i64 k, .slice a1 M.length q1, .slice a2 C.length q2] 42) := heap_set_self hx4 4 _
  have hy5 : (w4.setCell ⟨w.heap.size, 4, none⟩ (.slice a2 C.length q2)).heap[w.heap.size + 1]? = some _ := set_far hy4 (by simp)
  have hb5 : Below w.heap.size w (w4.setCell ⟨w.heap.size, 4, none⟩ (.slice a2 C.length q2)) := hb4.setCell (by simp) _
  have ho5 : (w4.setCell ⟨w.heap.size, 4, none⟩ (.slice a2 C.length q2)).ownsRow (w.heap.size + 2) 3 1 (.slice a1 M.length q1) M.length (nCells M) := ownsRow_setCell_below ho4 (by simp) _
  have ho6 : (w4.setCell ⟨w.heap.size, 4, none⟩ (.slice a2 C.length q2)).ownsRow (w.heap.size + 2) 3 1 (.slice a2 C.length q2) C.length (nCells C) := ownsRow_setCell_below ho2' (by simp) _
  have HX5 := Lib.hid (And.intro hx5 (And.intro hy5 (And.intro hb5 (And.intro ho5 ho6))))
  clear hx3 hy3 hb3 ho3 hs3 hm hc HX3 hx4 hy4 hs4 hb4 hb4' ho4 ho2 ho2' hx5 hy5 hb5 ho5 ho6 c2
  go_upto_region 3 with fail
  generalize w4.setCell ⟨w.heap.size, 4, none⟩ (.slice a2 C.length q2) = wq at *
  clear f4 q4 d4
  obtain ⟨hx, hq, hb, ho1, ho2⟩ := HX5.out
  have e0 := cell_atD hx 0 (v := .int .i64 e) rfl
  have e1 := cell_atD hx 1 (v := .int .i64 b) rfl
  have e2 := cell_atD hx 2 (v := .int .i64 k) rfl
  have e3 := cell_atD hx 3 (v := .slice a1 M.length q1) rfl
  have e4 := cell_atD hx 4 (v := .slice a2 C.length q2) rfl
  have d0 := cell_atD hq 0 (v := .int .i64 0) rfl
  have d1 := cell_atD hq 1 (v := .int .i64 0) rfl
  have d2 := cell_atD hq 2 (v := .int .i64 0) rfl
  have d3 := cell_atD hq 3 (v := .slice none 0 0) rfl
  have d4 := cell_atD hq 4 (v := .slice none 0 0) rfl
  have gq : ∀ j, wq.frozen? ⟨w.heap.size + 1, j, none⟩ = false := fun j => by simp [World.frozen?, hq]
  have FI := Lib.hid (show (((((wq.setCell ⟨w.heap.size + 1, 0, none⟩ (.int .i64 e)).setCell ⟨w.heap.size + 1, 1, none⟩ (.int .i64 b)).setCell ⟨w.heap.size + 1, 2, none⟩ (.int .i64 k)).setCell ⟨w.heap.size + 1, 3, none⟩ (.slice a1 M.length q1)).setCell ⟨w.heap.size + 1, 4, none⟩ (.slice a2 C.length q2)).heap[w.heap.size + 1]? = some (.cells #[.int .i64 e, .int .i64 b, .int .i64 k, .slice a1 M.length q1, .slice a2 C.length q2] 42) from heap_set_self (heap_set_self (heap_set_self (heap_set_self (heap_set_self hq 0 _) 1 _) 2 _) 3 _) 4 _)
  have FO := Lib.hid (show Only (w.heap.size + 1) wq (((((wq.setCell ⟨w.heap.size + 1, 0, none⟩ (.int .i64 e)).setCell ⟨w.heap.size + 1, 1, none⟩ (.int .i64 b)).setCell ⟨w.heap.size + 1, 2, none⟩ (.int .i64 k)).setCell ⟨w.heap.size + 1, 3, none⟩ (.slice a1 M.length q1)).setCell ⟨w.heap.size + 1, 4, none⟩ (.slice a2 C.length q2)) from (((((Only.refl _ _).set 0 _).set 1 _).set 2 _).set 3 _).set 4 _)
  have HY := Lib.hid (And.intro (lt_heap hq) (And.intro hb (And.intro ho1 ho2)))
  clear hx hq hb ho1 ho2 HX5
  go_wp2_with fail
  generalize (((((wq.setCell ⟨w.heap.size + 1, 0, none⟩ (.int .i64 e)).setCell ⟨w.heap.size + 1, 1, none⟩ (.int .i64 b)).setCell ⟨w.heap.size + 1, 2, none⟩ (.int .i64 k)).setCell ⟨w.heap.size + 1, 3, none⟩ (.slice a1 M.length q1)).setCell ⟨w.heap.size + 1, 4, none⟩ (.slice a2 C.length q2)) = wf at *
  have fi := FI.out
  have s0 := cell_atD fi 0 (v := .int .i64 e) rfl
  have s1 := cell_atD fi 1 (v := .int .i64 b) rfl
  have s2 := cell_atD fi 2 (v := .int .i64 k) rfl
  have s3 := cell_atD fi 3 (v := .slice a1 M.length q1) rfl
  have s4 := cell_atD fi 4 (v := .slice a2 C.length q2) rfl
  clear fi
  refine bodyPost_ret (v := .agg #[.int .i64 e, .int .i64 b, .int .i64 k, .slice a1 M.length q1, .slice a2 C.length q2]) (by simp [results, Try.results45, go_sem, s0, s1, s2, s3, s4]) rfl ?_
  obtain ⟨hl, hb, ho1, ho2⟩ := HY.out
  have hf : Below w.heap.size w wf := hb.trans (FO.out.below (B := w.heap.size) (by omega) hb.size)
  exact ⟨_, _, rfl, ⟨owns_baseD (own_onlyD ho1 FO.out (by omega)) (by omega), owns_baseD (own_onlyD ho2 FO.out (by omega)) (by omega)⟩, hf⟩
end Go.Proofs.Ytkdmnhmlkcejfaa
