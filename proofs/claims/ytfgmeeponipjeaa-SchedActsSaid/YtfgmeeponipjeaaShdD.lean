/-
  sched: what a client asks.
-/
import Derived.Test.YtfgmeeponipjeaaShdC
namespace Go.Proofs.Ytfgmeeponipjeaa
open Go.RowKit
set_option linter.unusedVariables false
set_option linter.unusedSimpArgs false

def n3 (s : Int) : Int := nx (nx (nx s))
def askL (s : Int) : Int := if bl s 4 = 1 then 0 else 32
def askD (s : Int) : ByteArray := if bl s 4 = 1 then letF (n3 s) else ⟨#[]⟩
def askB (s : Int) : Bool := bl (nx (nx s)) 8 == 0
def askS (s : Int) : Int := if bl s 4 = 1 then stN (n3 s) 32 else n3 s
theorem over5 {w : World} {R : Nat} {a0 a1 a2 a3 a4 : Value} {t : TypeId} (h : w.heap[R]? = some (.cells #[a0, a1, a2, a3, a4] t)) (v0 v1 v2 v3 v4 : Value) :
    (((((w.setCell ⟨R, 0, none⟩ v0).setCell ⟨R, 1, none⟩ v1).setCell ⟨R, 2, none⟩ v2).setCell ⟨R, 3, none⟩ v3).setCell ⟨R, 4, none⟩ v4).heap[R]? = some (.cells #[v0, v1, v2, v3, v4] t) :=
  heap_set_self (heap_set_self (heap_set_self (heap_set_self (heap_set_self h 0 v0) 1 v1) 2 v2) 3 v3) 4 v4
theorem far5 {w w0 : World} {R g : Nat} (o : Only g w0 w) (hR : w0.heap.size ≤ R) (v0 v1 v2 v3 v4 : Value) : Only g w0 (((((w.setCell ⟨R, 0, none⟩ v0).setCell ⟨R, 1, none⟩ v1).setCell ⟨R, 2, none⟩ v2).setCell ⟨R, 3, none⟩ v3).setCell ⟨R, 4, none⟩ v4) :=
  only_new (only_new (only_new (only_new (only_new o hR 0 v0) hR 1 v1) hR 2 v2) hR 3 v3) hR 4 v4
theorem sb_far {w : World} {R g : Nat} {s : Int} (h : SB w g s) (hne : g ≠ R) (k : Nat) (v : Value) : SB (w.setCell ⟨R, k, none⟩ v) g s := (Below.heap_setCell _ _ _ _ hne).trans h
set_option maxHeartbeats 3200000 in
set_option maxRecDepth 100000 in
theorem sask (g : Nat) (s b : Int) (w : World) (h : SB w g s) (hb : 1 ≤ b) (hb2 : b ≤ 64) : Calls Try.prog 60 #[.pointer (some ⟨g, 0, none⟩), .int .i64 b] w fun e w' => e = .returned (.agg #[.int .i64 (bl s 4), .int .i64 (bl (nx s) b * 32), .int .i64 (askL s), .string (askD s), .bool (askB s)]) ∧ SB w' g (askS s) ∧ Only g w w' := by
  have hx := heap_alloc_self w (.cells #[.int .i64 0, .int .i64 0, .int .i64 0, .string ⟨#[]⟩, .bool false] 70)
  have hb0 := (Below.refl w.heap.size w).alloc (Nat.le_refl _) (.cells #[.int .i64 0, .int .i64 0, .int .i64 0, .string ⟨#[]⟩, .bool false] 70)
  have c1 := fun w h => sbelow g s 4 w h (by decide) (by decide)
  have c2 := fun w h => sbelow g (nx s) b w h hb (by omega)
  have c3 := fun w h => sbelow g (nx (nx s)) 8 w h (by decide) (by decide)
  obtain ⟨p1, p2⟩ := bl_range s (show (1 : Int) ≤ 4 by decide)
  obtain ⟨q1, q2⟩ := bl_range (nx s) hb
  obtain ⟨A, hA⟩ : ∃ A, bl s 4 = A := ⟨_, rfl⟩
  obtain ⟨B, hB⟩ : ∃ B, bl (nx s) b = B := ⟨_, rfl⟩
  obtain ⟨C, hC⟩ : ∃ C, bl (nx (nx s)) 8 = C := ⟨_, rfl⟩
  obtain ⟨S, hS⟩ : ∃ S, (C == 0) = S := ⟨_, rfl⟩
  have HAB := Lib.hid (show askB s = S by unfold askB; rw [hC]; exact hS)
  have HA := Lib.hid hA
  rw [hA] at c1 p1 p2 ⊢
  rw [hB] at c2 q1 q2 ⊢
  rw [hC] at c3
  rw [HAB.out]
  have hw32 : IntKind.i64.wrap (B * 32) = B * 32 := by rw [IntKind.wrap_i64]; omega
  have H0 := Lib.hid (And.intro (h.below hb0) (And.intro hx (And.intro (Only.of_below (b := g) hb0) (lt_heap h))))
  clear hx hb0 h hA hB hC hb hb2
  go_enter Try.func60, Try.ntmps60
  go_upto_region 1 with fail
  generalize w.alloc (.cells #[.int .i64 0, .int .i64 0, .int .i64 0, .string ⟨#[]⟩, .bool false] 70) = w0 at *
  have cc1 := c1 w0 H0.out.1
  clear c1
  go_wp2_with fail
  refine Calls.mono cc1 ?_
  rintro e w1 ⟨rfl, hw1⟩
  obtain ⟨hs1, ho1⟩ := H0.out.1.bl hw1
  have cc2 := c2 w1 hs1
  have H1 := Lib.hid (And.intro hs1 (And.intro (H0.out.2.2.1.trans ho1) ((ho1.block w.heap.size (lt_heap H0.out.2.1) (by have := H0.out.2.2.2; omega)).trans H0.out.2.1)))
  clear cc1 c2 hw1 hs1 ho1
  go_wp2_with fail
  refine Calls.mono cc2 ?_
  rintro e w2 ⟨rfl, hw2⟩
  obtain ⟨hs2, ho2⟩ := H1.out.1.bl hw2
  have cc3 := c3 w2 hs2
  have H2 := Lib.hid (And.intro hs2 (And.intro (H1.out.2.1.trans ho2) ((ho2.block w.heap.size (lt_heap H1.out.2.2) (by have := H0.out.2.2.2; omega)).trans H1.out.2.2)))
  clear cc2 c3 hw2 hs2 ho2 H1
  go_wp2_with fail
  refine Calls.mono cc3 ?_
  rintro e w3 ⟨rfl, hw3⟩
  obtain ⟨hs3, ho3⟩ := H2.out.1.bl hw3
  have hbz := (Below.refl w3.heap.size w3).alloc (Nat.le_refl _) (.cells #[.int .i64 A, .int .i64 (B * 32), .int .i64 0, .string ⟨#[]⟩, .bool S] 70)
  have hq := heap_alloc_self w3 (.cells #[.int .i64 A, .int .i64 (B * 32), .int .i64 0, .string ⟨#[]⟩, .bool S] 70)
  have hr3 := (ho3.block w.heap.size (lt_heap H2.out.2.2) (by have := H0.out.2.2.2; omega)).trans H2.out.2.2
  have H3 := Lib.hid (And.intro (show SB _ g (n3 s) from hs3.below hbz) (And.intro ((H2.out.2.1.trans ho3).trans (Only.of_below hbz)) (And.intro (below_at hbz (lt_heap hr3) hr3) (And.intro hq (lt_heap hr3)))))
  clear cc3 hw3 hs3 ho3 hbz hq hr3 H2
  go_upto_region 2 with fail
  generalize w3.alloc (.cells #[.int .i64 A, .int .i64 (B * 32), .int .i64 0, .string ⟨#[]⟩, .bool S] 70) = w4 at *
  obtain ⟨Q, hQ⟩ : ∃ Q, w3.heap.size = Q := ⟨_, rfl⟩
  rw [hQ] at H3 ⊢
  clear hQ hS hw32
  have hRQ : w.heap.size < Q := H3.out.2.2.2.2
  have hgR : g < w.heap.size := H0.out.2.2.2
  clear H0
  have d0 := cellG H3.out.2.2.2.1 0 (v := .int .i64 A) rfl
  by_cases hA1 : A = 1
  · subst hA1
    have cl := sletters g (n3 s) w4 H3.out.1
    have HL := Lib.hid (show askL s = 0 ∧ askD s = letF (n3 s) ∧ askS s = stN (n3 s) 32 by unfold askL askD askS; rw [HA.out]; exact ⟨rfl, rfl, rfl⟩)
    obtain ⟨D, hD⟩ : ∃ D, letF (n3 s) = D := ⟨_, rfl⟩
    rw [hD] at cl
    have HDD := Lib.hid hD
    clear hD
    go_wp2_with fail
    refine Calls.mono cl ?_
    rintro e w5 ⟨rfl, hs5, ho5⟩
    have hq5 := (ho5.block Q (lt_heap H3.out.2.2.2.1) (by omega)).trans H3.out.2.2.2.1
    have hr5 := (ho5.block w.heap.size (lt_heap H3.out.2.2.1) (by omega)).trans H3.out.2.2.1
    have hq6 := heap_set_self hq5 3 (.string D)
    have hr6 := (Below.heap_setCell w5 ⟨Q, 3, none⟩ (.string D) w.heap.size (by show w.heap.size ≠ Q; omega)).trans hr5
    have hs6 := sb_far hs5 (show g ≠ Q by omega) 3 (.string D)
    have ho6 := only_new (H3.out.2.1.trans ho5) (show w.heap.size ≤ Q by omega) 3 (.string D)
    have f5 := frzG hq5 3
    have e3 := cellG hq5 3 (v := .string ⟨#[]⟩) rfl
    have H6 := Lib.hid (And.intro hq6 (And.intro hr6 (And.intro hs6 ho6)))
    clear cl hq5 hr5 hq6 hr6 hs6 ho6 hs5 ho5 d0 H3
    go_upto_region 5 with fail
    generalize w5.setCell ⟨Q, 3, none⟩ (.string D) = w6 at *
    clear f5 e3
    have y0 := cellG H6.out.1 0 (v := .int .i64 1) rfl
    have y1 := cellG H6.out.1 1 (v := .int .i64 (B * 32)) rfl
    have y2 := cellG H6.out.1 2 (v := .int .i64 0) rfl
    have y3 := cellG H6.out.1 3 (v := .string D) rfl
    have y4 := cellG H6.out.1 4 (v := .bool S) rfl
    have z0 := cellG H6.out.2.1 0 (v := .int .i64 0) rfl
    have z1 := cellG H6.out.2.1 1 (v := .int .i64 0) rfl
    have z2 := cellG H6.out.2.1 2 (v := .int .i64 0) rfl
    have z3 := cellG H6.out.2.1 3 (v := .string ⟨#[]⟩) rfl
    have z4 := cellG H6.out.2.1 4 (v := .bool false) rfl
    have g0 := frzG H6.out.2.1 0
    have g1 := frzG H6.out.2.1 1
    have g2 := frzG H6.out.2.1 2
    have g3 := frzG H6.out.2.1 3
    have g4 := frzG H6.out.2.1 4
    go_wp2_with fail
    have k := over5 H6.out.2.1 (.int .i64 1) (.int .i64 (B * 32)) (.int .i64 0) (.string D) (.bool S)
    have FO := Lib.hid (And.intro (far5 H6.out.2.2.2 (Nat.le_refl w.heap.size) (.int .i64 1) (.int .i64 (B * 32)) (.int .i64 0) (.string D) (.bool S)) (sb_far (sb_far (sb_far (sb_far (sb_far H6.out.2.2.1 (Nat.ne_of_lt hgR) 0 (.int .i64 1)) (Nat.ne_of_lt hgR) 1 (.int .i64 (B * 32))) (Nat.ne_of_lt hgR) 2 (.int .i64 0)) (Nat.ne_of_lt hgR) 3 (.string D)) (Nat.ne_of_lt hgR) 4 (.bool S)))
    generalize ((((w6.setCell ⟨w.heap.size, 0, none⟩ (.int .i64 1)).setCell ⟨w.heap.size, 1, none⟩ (.int .i64 (B * 32))).setCell ⟨w.heap.size, 2, none⟩ (.int .i64 0)).setCell ⟨w.heap.size, 3, none⟩ (.string D)).setCell ⟨w.heap.size, 4, none⟩ (.bool S) = w7 at *
    have s0 := cellG k 0 (v := .int .i64 1) rfl
    have s1 := cellG k 1 (v := .int .i64 (B * 32)) rfl
    have s2 := cellG k 2 (v := .int .i64 0) rfl
    have s3 := cellG k 3 (v := .string D) rfl
    have s4 := cellG k 4 (v := .bool S) rfl
    refine bodyPost_ret (v := .agg #[.int .i64 1, .int .i64 (B * 32), .int .i64 0, .string D, .bool S]) (by simp [results, Try.results60, go_sem, s0, s1, s2, s3, s4]) rfl ?_
    exact ⟨by rw [HL.out.1, HL.out.2.1, HDD.out], by rw [HL.out.2.2]; exact FO.out.2, FO.out.1⟩
  · have HL := Lib.hid (show askL s = 32 ∧ askD s = ⟨#[]⟩ ∧ askS s = n3 s by unfold askL askD askS; rw [HA.out, if_neg hA1, if_neg hA1, if_neg hA1]; exact ⟨rfl, rfl, rfl⟩)
    have hA2 : (A == 1) = false := by simp [hA1]
    have hq6 := heap_set_self H3.out.2.2.2.1 2 (.int .i64 32)
    have hr6 := (Below.heap_setCell w4 ⟨Q, 2, none⟩ (.int .i64 32) w.heap.size (by show w.heap.size ≠ Q; omega)).trans H3.out.2.2.1
    have hs6 := sb_far H3.out.1 (show g ≠ Q by omega) 2 (.int .i64 32)
    have ho6 := only_new H3.out.2.1 (show w.heap.size ≤ Q by omega) 2 (.int .i64 32)
    have f5 := frzG H3.out.2.2.2.1 2
    have e3 := cellG H3.out.2.2.2.1 2 (v := .int .i64 0) rfl
    have H6 := Lib.hid (And.intro hq6 (And.intro hr6 (And.intro hs6 ho6)))
    clear hq6 hr6 hs6 ho6 H3
    go_upto_region 5 with fail
    generalize w4.setCell ⟨Q, 2, none⟩ (.int .i64 32) = w6 at *
    clear f5 e3 d0
    have y0 := cellG H6.out.1 0 (v := .int .i64 A) rfl
    have y1 := cellG H6.out.1 1 (v := .int .i64 (B * 32)) rfl
    have y2 := cellG H6.out.1 2 (v := .int .i64 32) rfl
    have y3 := cellG H6.out.1 3 (v := .string ⟨#[]⟩) rfl
    have y4 := cellG H6.out.1 4 (v := .bool S) rfl
    have z0 := cellG H6.out.2.1 0 (v := .int .i64 0) rfl
    have z1 := cellG H6.out.2.1 1 (v := .int .i64 0) rfl
    have z2 := cellG H6.out.2.1 2 (v := .int .i64 0) rfl
    have z3 := cellG H6.out.2.1 3 (v := .string ⟨#[]⟩) rfl
    have z4 := cellG H6.out.2.1 4 (v := .bool false) rfl
    have g0 := frzG H6.out.2.1 0
    have g1 := frzG H6.out.2.1 1
    have g2 := frzG H6.out.2.1 2
    have g3 := frzG H6.out.2.1 3
    have g4 := frzG H6.out.2.1 4
    go_wp2_with fail
    have k := over5 H6.out.2.1 (.int .i64 A) (.int .i64 (B * 32)) (.int .i64 32) (.string ⟨#[]⟩) (.bool S)
    have FO := Lib.hid (And.intro (far5 H6.out.2.2.2 (Nat.le_refl w.heap.size) (.int .i64 A) (.int .i64 (B * 32)) (.int .i64 32) (.string ⟨#[]⟩) (.bool S)) (sb_far (sb_far (sb_far (sb_far (sb_far H6.out.2.2.1 (Nat.ne_of_lt hgR) 0 (.int .i64 A)) (Nat.ne_of_lt hgR) 1 (.int .i64 (B * 32))) (Nat.ne_of_lt hgR) 2 (.int .i64 32)) (Nat.ne_of_lt hgR) 3 (.string ⟨#[]⟩)) (Nat.ne_of_lt hgR) 4 (.bool S)))
    generalize ((((w6.setCell ⟨w.heap.size, 0, none⟩ (.int .i64 A)).setCell ⟨w.heap.size, 1, none⟩ (.int .i64 (B * 32))).setCell ⟨w.heap.size, 2, none⟩ (.int .i64 32)).setCell ⟨w.heap.size, 3, none⟩ (.string ⟨#[]⟩)).setCell ⟨w.heap.size, 4, none⟩ (.bool S) = w7 at *
    have s0 := cellG k 0 (v := .int .i64 A) rfl
    have s1 := cellG k 1 (v := .int .i64 (B * 32)) rfl
    have s2 := cellG k 2 (v := .int .i64 32) rfl
    have s3 := cellG k 3 (v := .string ⟨#[]⟩) rfl
    have s4 := cellG k 4 (v := .bool S) rfl
    refine bodyPost_ret (v := .agg #[.int .i64 A, .int .i64 (B * 32), .int .i64 32, .string ⟨#[]⟩, .bool S]) (by simp [results, Try.results60, go_sem, s0, s1, s2, s3, s4]) rfl ?_
    exact ⟨by rw [HL.out.1, HL.out.2.1], by rw [HL.out.2.2]; exact FO.out.2, FO.out.1⟩
end Go.Proofs.Ytfgmeeponipjeaa
