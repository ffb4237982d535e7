/-
  Several texts, laid together.
-/
import Derived.Test.YtlhjgpedmnjbpaaMg18
/-
  Entries near what was drawn, for any oddness but all ones.
-/

namespace Go.Proofs.Ytlhjgpedmnjbpaa
open Go.RowKit
set_option linter.unusedVariables false
set_option linter.unusedSimpArgs false

theorem near12NO (odd : Int) (hodd : odd % 32 ≠ 31) (x : Int) (c : CF) (a5 a6 : Option Addr) (q5 q6 : Nat) (N : Nat) (w : World) (hW : N ≤ w.heap.size) (h : CFat c w (.slice a5 c.M.length q5) (.slice a6 c.C.length q6)) :
    Calls Try.prog 12 #[.agg #[.int .i64 x, .int .i64 c.e, .int .i64 c.b, .int .i64 c.k, .slice a5 c.M.length q5, .slice a6 c.C.length q6], .int .i64 odd] w fun ev w' => ∃ (y de db dk : Int) (n1 n2 : Nat), ∃ a1 p1 a2 p2, ev = .returned (.agg #[.int .i64 y, .int .i64 de, .int .i64 db, .int .i64 dk, .slice a1 n1 p1, .slice a2 n2 p2]) ∧ Lists N n1 n2 a1 p1 a2 p2 w' ∧ Below w.heap.size w w' ∧ Stays N w w' := by
  refine (near12F x c odd hodd a5 a6 q5 q6 w h).mono ?_
  rintro ev w' ⟨y, de, db, dk, n1, n2, a1, p1, a2, p2, rfl, h1, hb⟩
  exact ⟨y, de, db, dk, n1, n2, a1, p1, a2, p2, rfl, listsLow h1 hW, hb, stays_of hW hb⟩
set_option maxHeartbeats 3200000 in
set_option maxRecDepth 40000 in
theorem near13O (odd : Int) (hodd : odd % 32 ≠ 31) (e : EN) (w : World) (h : e.at_ w) :
    Calls Try.prog 26 #[.agg #[.int .i64 e.t, .int .i64 e.x, .int .i64 e.c.e, .int .i64 e.c.b, .int .i64 e.c.k, .slice e.a1 e.c.M.length e.q1, .slice e.a2 e.c.C.length e.q2], .int .i64 odd] w (Near13 w) := by
  obtain ⟨hx, hy⟩ := two_blocks w (.cells #[.int .i64 e.t, .int .i64 e.x, .int .i64 e.c.e, .int .i64 e.c.b, .int .i64 e.c.k, .slice e.a1 e.c.M.length e.q1, .slice e.a2 e.c.C.length e.q2] 52) (.cells #[.int .i64 0, .int .i64 0, .int .i64 0, .int .i64 0, .int .i64 0, .slice none 0 0, .slice none 0 0] 52)
  have hb : Below w.heap.size w ((w.alloc (.cells #[.int .i64 e.t, .int .i64 e.x, .int .i64 e.c.e, .int .i64 e.c.b, .int .i64 e.c.k, .slice e.a1 e.c.M.length e.q1, .slice e.a2 e.c.C.length e.q2] 52)).alloc (.cells #[.int .i64 0, .int .i64 0, .int .i64 0, .int .i64 0, .int .i64 0, .slice none 0 0, .slice none 0 0] 52)) := ((Below.refl _ _).alloc (Nat.le_refl _) _).alloc (by simp) _
  have hm15 : bits .and .i64 e.t 15 = e.t % 16 := mask_mod e.t 4 15 (by decide) (by decide)
  have hr : 0 ≤ e.t % 16 ∧ e.t % 16 ≤ 15 := by omega
  generalize e.t % 16 = T at hm15 hr
  go_enter Try.func26, Try.ntmps26
  go_upto_region 1 with fail
  generalize (w.alloc (.cells #[.int .i64 e.t, .int .i64 e.x, .int .i64 e.c.e, .int .i64 e.c.b, .int .i64 e.c.k, .slice e.a1 e.c.M.length e.q1, .slice e.a2 e.c.C.length e.q2] 52)).alloc (.cells #[.int .i64 0, .int .i64 0, .int .i64 0, .int .i64 0, .int .i64 0, .slice none 0 0, .slice none 0 0] 52) = W at *
  have c0 := cell_atD hx 0 (v := .int .i64 e.t) rfl
  have c1 := cell_atD hx 1 (v := .int .i64 e.x) rfl
  have c2 := cell_atD hx 2 (v := .int .i64 e.c.e) rfl
  have c3 := cell_atD hx 3 (v := .int .i64 e.c.b) rfl
  have c4 := cell_atD hx 4 (v := .int .i64 e.c.k) rfl
  have c5 := cell_atD hx 5 (v := .slice e.a1 e.c.M.length e.q1) rfl
  have c6 := cell_atD hx 6 (v := .slice e.a2 e.c.C.length e.q2) rfl
  obtain ⟨N, hN⟩ : ∃ N, w.heap.size + 1 = N := ⟨_, rfl⟩
  have hlt : w.heap.size < N := by omega
  have hNW : N ≤ W.heap.size := by have := lt_heap hy; omega
  have cN := fun w' (h' : N ≤ w'.heap.size ∧ Below N W w') => near12NO odd hodd e.x e.c e.a1 e.a2 e.q1 e.q2 N w' h'.1 (CFat.below h (hb.trans (h'.2.mono (by omega))))
  have hNN : N ≤ N := Nat.le_refl _
  have HB := Lib.hid (And.intro hb (And.intro hx hN))
  rw [hN] at hy
  simp only [hN]
  clear hb hx h hN
  go_region_held3 (fun w' => N ≤ w'.heap.size ∧ Below N W w' ∧ ∀ b o, b < N → w'.cell? ⟨b, o, none⟩ = W.cell? ⟨b, o, none⟩) (first | with_reducible exact keeps_set7 (by assumption) hNN | with_reducible exact keeps_next (by assumption) (by assumption) | exact keepsU_start hNW) (first | (go_at_call 12; (with_reducible refine Calls.mono (cN _ ?hk) ?_); (case hk => exact keepsU_two (by assumption)); rintro ev wz ⟨y, de, db, dk, n1, n2, a1, p1, a2, p2, rfl, hD, hbz, hzz⟩; replace hy := below_at hbz (lt_heap hy) hy; have y0 := cell_atD hy 0 (v := .int .i64 0) rfl; have f0 : wz.frozen? ⟨N, 0, none⟩ = false := (by simp [World.frozen?, hy]); have y1 := cell_atD hy 1 (v := .int .i64 0) rfl; have f1 : wz.frozen? ⟨N, 1, none⟩ = false := (by simp [World.frozen?, hy]); have y2 := cell_atD hy 2 (v := .int .i64 0) rfl; have f2 : wz.frozen? ⟨N, 2, none⟩ = false := (by simp [World.frozen?, hy]); have y3 := cell_atD hy 3 (v := .int .i64 0) rfl; have f3 : wz.frozen? ⟨N, 3, none⟩ = false := (by simp [World.frozen?, hy]); have y4 := cell_atD hy 4 (v := .int .i64 0) rfl; have f4 : wz.frozen? ⟨N, 4, none⟩ = false := (by simp [World.frozen?, hy]); have y5 := cell_atD hy 5 (v := .slice none 0 0) rfl; have f5 : wz.frozen? ⟨N, 5, none⟩ = false := (by simp [World.frozen?, hy]); have y6 := cell_atD hy 6 (v := .slice none 0 0) rfl; have f6 : wz.frozen? ⟨N, 6, none⟩ = false := (by simp [World.frozen?, hy]); clear hbz))
  rename_i hfin
  have g1 : (wz.setCell ⟨N, 0, none⟩ (.int .i64 (IntKind.i64.wrap (T + 1)))).heap[N]? = some (.cells #[.int .i64 (IntKind.i64.wrap (T + 1)), .int .i64 0, .int .i64 0, .int .i64 0, .int .i64 0, .slice none 0 0, .slice none 0 0] 52) := heap_set_self hy 0 _
  have g2 : ((wz.setCell ⟨N, 0, none⟩ (.int .i64 (IntKind.i64.wrap (T + 1)))).setCell ⟨N, 1, none⟩ (.int .i64 y)).heap[N]? = some (.cells #[.int .i64 (IntKind.i64.wrap (T + 1)), .int .i64 y, .int .i64 0, .int .i64 0, .int .i64 0, .slice none 0 0, .slice none 0 0] 52) := heap_set_self g1 1 _
  have g3 : (((wz.setCell ⟨N, 0, none⟩ (.int .i64 (IntKind.i64.wrap (T + 1)))).setCell ⟨N, 1, none⟩ (.int .i64 y)).setCell ⟨N, 2, none⟩ (.int .i64 de)).heap[N]? = some (.cells #[.int .i64 (IntKind.i64.wrap (T + 1)), .int .i64 y, .int .i64 de, .int .i64 0, .int .i64 0, .slice none 0 0, .slice none 0 0] 52) := heap_set_self g2 2 _
  have g4 : ((((wz.setCell ⟨N, 0, none⟩ (.int .i64 (IntKind.i64.wrap (T + 1)))).setCell ⟨N, 1, none⟩ (.int .i64 y)).setCell ⟨N, 2, none⟩ (.int .i64 de)).setCell ⟨N, 3, none⟩ (.int .i64 db)).heap[N]? = some (.cells #[.int .i64 (IntKind.i64.wrap (T + 1)), .int .i64 y, .int .i64 de, .int .i64 db, .int .i64 0, .slice none 0 0, .slice none 0 0] 52) := heap_set_self g3 3 _
  have g5 : (((((wz.setCell ⟨N, 0, none⟩ (.int .i64 (IntKind.i64.wrap (T + 1)))).setCell ⟨N, 1, none⟩ (.int .i64 y)).setCell ⟨N, 2, none⟩ (.int .i64 de)).setCell ⟨N, 3, none⟩ (.int .i64 db)).setCell ⟨N, 4, none⟩ (.int .i64 dk)).heap[N]? = some (.cells #[.int .i64 (IntKind.i64.wrap (T + 1)), .int .i64 y, .int .i64 de, .int .i64 db, .int .i64 dk, .slice none 0 0, .slice none 0 0] 52) := heap_set_self g4 4 _
  have g6 : ((((((wz.setCell ⟨N, 0, none⟩ (.int .i64 (IntKind.i64.wrap (T + 1)))).setCell ⟨N, 1, none⟩ (.int .i64 y)).setCell ⟨N, 2, none⟩ (.int .i64 de)).setCell ⟨N, 3, none⟩ (.int .i64 db)).setCell ⟨N, 4, none⟩ (.int .i64 dk)).setCell ⟨N, 5, none⟩ (.slice a1 n1 p1)).heap[N]? = some (.cells #[.int .i64 (IntKind.i64.wrap (T + 1)), .int .i64 y, .int .i64 de, .int .i64 db, .int .i64 dk, .slice a1 n1 p1, .slice none 0 0] 52) := heap_set_self g5 5 _
  have g7 : (((((((wz.setCell ⟨N, 0, none⟩ (.int .i64 (IntKind.i64.wrap (T + 1)))).setCell ⟨N, 1, none⟩ (.int .i64 y)).setCell ⟨N, 2, none⟩ (.int .i64 de)).setCell ⟨N, 3, none⟩ (.int .i64 db)).setCell ⟨N, 4, none⟩ (.int .i64 dk)).setCell ⟨N, 5, none⟩ (.slice a1 n1 p1)).setCell ⟨N, 6, none⟩ (.slice a2 n2 p2)).heap[N]? = some (.cells #[.int .i64 (IntKind.i64.wrap (T + 1)), .int .i64 y, .int .i64 de, .int .i64 db, .int .i64 dk, .slice a1 n1 p1, .slice a2 n2 p2] 52) := heap_set_self g6 6 _
  have gI := Lib.hid g7
  have gO := Lib.hid (show Only (N) wz (((((((wz.setCell ⟨N, 0, none⟩ (.int .i64 (IntKind.i64.wrap (T + 1)))).setCell ⟨N, 1, none⟩ (.int .i64 y)).setCell ⟨N, 2, none⟩ (.int .i64 de)).setCell ⟨N, 3, none⟩ (.int .i64 db)).setCell ⟨N, 4, none⟩ (.int .i64 dk)).setCell ⟨N, 5, none⟩ (.slice a1 n1 p1)).setCell ⟨N, 6, none⟩ (.slice a2 n2 p2)) from ((((((((Only.refl _ _).set 0 _).set 1 _).set 2 _).set 3 _).set 4 _).set 5 _).set 6 _))
  clear g1 g2 g3 g4 g5 g6 g7
  have HF := Lib.hid (And.intro hfin hD)
  clear hfin hy hD cN y0 y1 y2 y3 y4 y5 y6 f0 f1 f2 f3 f4 f5 f6 c0 c1 c2 c3 c4 c5 c6 hzz
  generalize (((((((wz.setCell ⟨N, 0, none⟩ (.int .i64 (IntKind.i64.wrap (T + 1)))).setCell ⟨N, 1, none⟩ (.int .i64 y)).setCell ⟨N, 2, none⟩ (.int .i64 de)).setCell ⟨N, 3, none⟩ (.int .i64 db)).setCell ⟨N, 4, none⟩ (.int .i64 dk)).setCell ⟨N, 5, none⟩ (.slice a1 n1 p1)).setCell ⟨N, 6, none⟩ (.slice a2 n2 p2)) = w2 at *
  generalize IntKind.i64.wrap (T + 1) = U at *
  have hb6 : bits .and .i64 odd 63 = odd % 64 := mask_mod odd 6 63 (by decide) (by decide)
  have hb7 : (odd % 64 == 63) = false := by simp only [beq_eq_false_iff_ne, ne_eq]; omega
  generalize odd % 64 = O64 at hb6 hb7
  have y2 := gI.out
  have HG := Lib.hid (And.intro HF.out.1.2.1 (HF.out.2.only gO.out))
  clear gI gO HF
  have s0 := cell_atD y2 0 (v := .int .i64 U) rfl
  have s1 := cell_atD y2 1 (v := .int .i64 y) rfl
  have s2 := cell_atD y2 2 (v := .int .i64 de) rfl
  have s3 := cell_atD y2 3 (v := .int .i64 db) rfl
  have s4 := cell_atD y2 4 (v := .int .i64 dk) rfl
  have s5 := cell_atD y2 5 (v := .slice a1 n1 p1) rfl
  have s6 := cell_atD y2 6 (v := .slice a2 n2 p2) rfl
  have fz : ∀ j, w2.frozen? ⟨N, j, none⟩ = false := fun j => by simp [World.frozen?, y2]
  have k1 : (w2.setCell ⟨N, 0, none⟩ (.int .i64 U)).heap[N]? = some (.cells #[.int .i64 U, .int .i64 y, .int .i64 de, .int .i64 db, .int .i64 dk, .slice a1 n1 p1, .slice a2 n2 p2] 52) := heap_set_self y2 0 _
  have k2 : ((w2.setCell ⟨N, 0, none⟩ (.int .i64 U)).setCell ⟨N, 1, none⟩ (.int .i64 y)).heap[N]? = some (.cells #[.int .i64 U, .int .i64 y, .int .i64 de, .int .i64 db, .int .i64 dk, .slice a1 n1 p1, .slice a2 n2 p2] 52) := heap_set_self k1 1 _
  have k3 : (((w2.setCell ⟨N, 0, none⟩ (.int .i64 U)).setCell ⟨N, 1, none⟩ (.int .i64 y)).setCell ⟨N, 2, none⟩ (.int .i64 de)).heap[N]? = some (.cells #[.int .i64 U, .int .i64 y, .int .i64 de, .int .i64 db, .int .i64 dk, .slice a1 n1 p1, .slice a2 n2 p2] 52) := heap_set_self k2 2 _
  have k4 : ((((w2.setCell ⟨N, 0, none⟩ (.int .i64 U)).setCell ⟨N, 1, none⟩ (.int .i64 y)).setCell ⟨N, 2, none⟩ (.int .i64 de)).setCell ⟨N, 3, none⟩ (.int .i64 db)).heap[N]? = some (.cells #[.int .i64 U, .int .i64 y, .int .i64 de, .int .i64 db, .int .i64 dk, .slice a1 n1 p1, .slice a2 n2 p2] 52) := heap_set_self k3 3 _
  have k5 : (((((w2.setCell ⟨N, 0, none⟩ (.int .i64 U)).setCell ⟨N, 1, none⟩ (.int .i64 y)).setCell ⟨N, 2, none⟩ (.int .i64 de)).setCell ⟨N, 3, none⟩ (.int .i64 db)).setCell ⟨N, 4, none⟩ (.int .i64 dk)).heap[N]? = some (.cells #[.int .i64 U, .int .i64 y, .int .i64 de, .int .i64 db, .int .i64 dk, .slice a1 n1 p1, .slice a2 n2 p2] 52) := heap_set_self k4 4 _
  have k6 : ((((((w2.setCell ⟨N, 0, none⟩ (.int .i64 U)).setCell ⟨N, 1, none⟩ (.int .i64 y)).setCell ⟨N, 2, none⟩ (.int .i64 de)).setCell ⟨N, 3, none⟩ (.int .i64 db)).setCell ⟨N, 4, none⟩ (.int .i64 dk)).setCell ⟨N, 5, none⟩ (.slice a1 n1 p1)).heap[N]? = some (.cells #[.int .i64 U, .int .i64 y, .int .i64 de, .int .i64 db, .int .i64 dk, .slice a1 n1 p1, .slice a2 n2 p2] 52) := heap_set_self k5 5 _
  have k7 : (((((((w2.setCell ⟨N, 0, none⟩ (.int .i64 U)).setCell ⟨N, 1, none⟩ (.int .i64 y)).setCell ⟨N, 2, none⟩ (.int .i64 de)).setCell ⟨N, 3, none⟩ (.int .i64 db)).setCell ⟨N, 4, none⟩ (.int .i64 dk)).setCell ⟨N, 5, none⟩ (.slice a1 n1 p1)).setCell ⟨N, 6, none⟩ (.slice a2 n2 p2)).heap[N]? = some (.cells #[.int .i64 U, .int .i64 y, .int .i64 de, .int .i64 db, .int .i64 dk, .slice a1 n1 p1, .slice a2 n2 p2] 52) := heap_set_self k6 6 _
  have kI := Lib.hid k7
  have kO := Lib.hid (show Only (N) w2 (((((((w2.setCell ⟨N, 0, none⟩ (.int .i64 U)).setCell ⟨N, 1, none⟩ (.int .i64 y)).setCell ⟨N, 2, none⟩ (.int .i64 de)).setCell ⟨N, 3, none⟩ (.int .i64 db)).setCell ⟨N, 4, none⟩ (.int .i64 dk)).setCell ⟨N, 5, none⟩ (.slice a1 n1 p1)).setCell ⟨N, 6, none⟩ (.slice a2 n2 p2)) from ((((((((Only.refl _ _).set 0 _).set 1 _).set 2 _).set 3 _).set 4 _).set 5 _).set 6 _))
  clear k1 k2 k3 k4 k5 k6 k7
  clear y2
  go_wp2_with fail
  generalize (((((((w2.setCell ⟨N, 0, none⟩ (.int .i64 U)).setCell ⟨N, 1, none⟩ (.int .i64 y)).setCell ⟨N, 2, none⟩ (.int .i64 de)).setCell ⟨N, 3, none⟩ (.int .i64 db)).setCell ⟨N, 4, none⟩ (.int .i64 dk)).setCell ⟨N, 5, none⟩ (.slice a1 n1 p1)).setCell ⟨N, 6, none⟩ (.slice a2 n2 p2)) = wf at *
  have fi := kI.out
  have t0 := cell_atD fi 0 (v := .int .i64 U) rfl
  have t1 := cell_atD fi 1 (v := .int .i64 y) rfl
  have t2 := cell_atD fi 2 (v := .int .i64 de) rfl
  have t3 := cell_atD fi 3 (v := .int .i64 db) rfl
  have t4 := cell_atD fi 4 (v := .int .i64 dk) rfl
  have t5 := cell_atD fi 5 (v := .slice a1 n1 p1) rfl
  have t6 := cell_atD fi 6 (v := .slice a2 n2 p2) rfl
  clear fi
  refine bodyPost_ret (v := .agg #[.int .i64 U, .int .i64 y, .int .i64 de, .int .i64 db, .int .i64 dk, .slice a1 n1 p1, .slice a2 n2 p2]) (by simp [results, Try.results26, go_sem, t0, t1, t2, t3, t4, t5, t6]) rfl ?_
  obtain ⟨hb, hx, hN⟩ := HB.out
  exact ⟨U, y, de, db, dk, n1, n2, a1, p1, a2, p2, rfl, listsLow (HG.out.2.only kO.out) (by omega), (hb.trans (HG.out.1.mono (by omega))).trans (kO.out.below (B := w.heap.size) (by omega) (Nat.le_trans hb.size HG.out.1.size))⟩
end Go.Proofs.Ytlhjgpedmnjbpaa
