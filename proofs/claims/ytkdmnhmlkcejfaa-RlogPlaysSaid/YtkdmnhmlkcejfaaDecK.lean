/-
  A command near what was drawn: tarnlaw12.Near.
-/
import Derived.Test.YtkdmnhmlkcejfaaDecF
import Derived.Test.YtkdmnhmlkcejfaaConfN
import Derived.Test.YtkdmnhmlkcejfaaHeld
namespace Go.Proofs.Ytkdmnhmlkcejfaa
open Go.RowKit
set_option linter.unusedVariables false
set_option linter.unusedSimpArgs false

theorem keepsU_start {N : Nat} {w : World} (h : N ≤ w.heap.size) : N ≤ w.drew.heap.size ∧ Below N w w.drew ∧ ∀ b o, b < N → w.drew.cell? ⟨b, o, none⟩ = w.cell? ⟨b, o, none⟩ :=
  ⟨h, below_drew' (Below.refl _ _), fun _ _ _ => rfl⟩
theorem keepsU_two {N : Nat} {w w' : World} {X : Prop} (h1 : N ≤ w'.heap.size ∧ Below N w w' ∧ X) : N ≤ w'.heap.size ∧ Below N w w' := ⟨h1.1, h1.2.1⟩
theorem keeps_set6 {N : Nat} {w w' : World} {X : Prop} {b : Nat} {v0 v1 v2 v3 v4 v5 : Value} (h1 : N ≤ w'.heap.size ∧ Below N w w' ∧ X) (hb : N ≤ b) : N ≤ ((((((w'.setCell ⟨b, 0, none⟩ v0).setCell ⟨b, 1, none⟩ v1).setCell ⟨b, 2, none⟩ v2).setCell ⟨b, 3, none⟩ v3).setCell ⟨b, 4, none⟩ v4).setCell ⟨b, 5, none⟩ v5).heap.size ∧ Below N w ((((((w'.setCell ⟨b, 0, none⟩ v0).setCell ⟨b, 1, none⟩ v1).setCell ⟨b, 2, none⟩ v2).setCell ⟨b, 3, none⟩ v3).setCell ⟨b, 4, none⟩ v4).setCell ⟨b, 5, none⟩ v5) ∧ ∀ c k, c < N → ((((((w'.setCell ⟨b, 0, none⟩ v0).setCell ⟨b, 1, none⟩ v1).setCell ⟨b, 2, none⟩ v2).setCell ⟨b, 3, none⟩ v3).setCell ⟨b, 4, none⟩ v4).setCell ⟨b, 5, none⟩ v5).cell? ⟨c, k, none⟩ = w.cell? ⟨c, k, none⟩ :=
  have h := (((((h1.2.1.setCell (p := ⟨b, 0, none⟩) hb v0).setCell (p := ⟨b, 1, none⟩) hb v1).setCell (p := ⟨b, 2, none⟩) hb v2).setCell (p := ⟨b, 3, none⟩) hb v3).setCell (p := ⟨b, 4, none⟩) hb v4).setCell (p := ⟨b, 5, none⟩) hb v5
  ⟨by simpa using h1.1, h, fun c k hc => h.cell (p := ⟨c, k, none⟩) hc⟩
/-- two lists lie so -/
def Lists (N n1 n2 : Nat) (a1 : Option Addr) (p1 : Nat) (a2 : Option Addr) (p2 : Nat) (w : World) : Prop := ∃ M C : List Int, M.length = n1 ∧ (C.length = n2 ∧ n1 ≤ 1000 ∧ n2 ≤ 1000) ∧ SR w (.slice a1 n1 p1) 1 n1 (nCells M) ∧ SR w (.slice a2 n2 p2) 1 n2 (nCells C) ∧ (∀ b, (Value.slice a1 n1 p1).ownBlock = some b → N < b) ∧ ∀ b, (Value.slice a2 n2 p2).ownBlock = some b → N < b
theorem nearM_len (b odd : Int) (M C : List Int) : (nearM b odd M C).length ≤ 1000 := by
  have := low4_len M
  unfold nearM
  repeat' split
  all_goals first | (simp; done) | omega
theorem nearC_len (b odd : Int) (M C : List Int) : (nearC b odd M C).length ≤ 1000 := by
  have := low4_len C
  unfold nearC
  repeat' split
  all_goals first | (simp; done) | omega
theorem near11 (c : CF) (a5 a6 : Option Addr) (q5 q6 : Nat) (odd : Int) (N : Nat) (w : World) (hW : N ≤ w.heap.size) (h : CFat c w (.slice a5 c.M.length q5) (.slice a6 c.C.length q6)) :
    Calls Try.prog 56 #[.agg #[.int .i64 c.e, .int .i64 c.b, .int .i64 c.k, .slice a5 c.M.length q5, .slice a6 c.C.length q6], .int .i64 odd] w fun ev w' => ∃ e b k n1 n2 a1 p1 a2 p2, ev = .returned (.agg #[.int .i64 e, .int .i64 b, .int .i64 k, .slice a1 n1 p1, .slice a2 n2 p2]) ∧ Lists N n1 n2 a1 p1 a2 p2 w' ∧ Below w.heap.size w w' ∧ Stays N w w' := by
  refine (near_anyN c.e c.b c.k odd _ _ c.M c.C w h.1 h.2).mono ?_
  rintro ev w' ⟨v1, v2, rfl, h1, h2, hb, g1, g2⟩
  obtain ⟨a1, p1, rfl, -, -⟩ := h1.form
  obtain ⟨a2, p2, rfl, -, -⟩ := h2.form
  exact ⟨_, _, _, _, _, a1, p1, a2, p2, rfl, ⟨nearM c.b odd c.M c.C, nearC c.b odd c.M c.C, rfl, ⟨rfl, nearM_len c.b odd c.M c.C, nearC_len c.b odd c.M c.C⟩, h1, h2, fun b e => by have := g1 b e; omega, fun b e => by have := g2 b e; omega⟩, hb, stays_of hW hb⟩
theorem srOnlyN {w w' : World} {b size n : Nat} {v : Value} {xs : List Value} (h : SR w v size n xs) (ho : Only b w w') (hne : ∀ k, v.ownBlock = some k → b < k) : SR w' v size n xs := by
  obtain ⟨a, cap, rfl, h1, h2, h3, h4⟩ := h
  refine ⟨a, cap, rfl, h1, h2, h3, h4.imp id ?_⟩
  rintro ⟨g, off, rfl, hb, hc⟩
  have hg : b < g := hne g rfl
  exact ⟨g, off, rfl, Nat.lt_of_lt_of_le hb ho.size, fun j u hj => (World.cell?_of_block (a := ⟨g, off + j, none⟩) (ho.block g hb (by omega))).trans (hc j u hj)⟩
theorem Lists.only {N n1 n2 p1 p2 : Nat} {a1 a2 : Option Addr} {w w' : World} (h : Lists N n1 n2 a1 p1 a2 p2 w) (ho : Only N w w') : Lists N n1 n2 a1 p1 a2 p2 w' := by
  obtain ⟨M, C, e1, e2, l1, l2, g1, g2⟩ := h
  exact ⟨M, C, e1, e2, srOnlyN l1 ho g1, srOnlyN l2 ho g2, g1, g2⟩
theorem ListsN.nil (N : Nat) (w : World) : Lists N 0 0 none 0 none 0 w := ⟨[], [], rfl, ⟨rfl, by decide, by decide⟩, SR.nil_ _ _, SR.nil_ _ _, fun b e => by simp [Value.ownBlock] at e, fun b e => by simp [Value.ownBlock] at e⟩
def MidK (x y : Int) (N : Nat) (c : CF) (a5 a6 : Option Addr) (q5 q6 : Nat) (w wx : World) : Prop :=
  ∃ de db dk n1 n2 a1 p1 a2 p2, wx.heap[N]? = some (.cells #[.int .i64 y, .int .i64 de, .int .i64 db, .int .i64 dk, .slice a1 n1 p1, .slice a2 n2 p2] 44) ∧ wx.heap[w.heap.size]? = some (.cells #[.int .i64 x, .int .i64 c.e, .int .i64 c.b, .int .i64 c.k, .slice a5 c.M.length q5, .slice a6 c.C.length q6] 44) ∧ Below w.heap.size w wx ∧ Lists N n1 n2 a1 p1 a2 p2 wx ∧ (x = 1 → y = 1 ∧ de = 0)
def Near12 (x odd : Int) (w : World) (ev : Ending) (w' : World) : Prop :=
  ∃ (y : Int) (d : CF), ∃ a1 p1 a2 p2, ev = .returned (.agg #[.int .i64 y, .int .i64 d.e, .int .i64 d.b, .int .i64 d.k, .slice a1 d.M.length p1, .slice a2 d.C.length p2]) ∧ CFat d w' (.slice a1 d.M.length p1) (.slice a2 d.C.length p2) ∧ Below w.heap.size w w' ∧ (odd = 6 → x = 1 → y = 1 ∧ d.e = 0)
set_option maxHeartbeats 3200000 in
set_option maxRecDepth 40000 in
theorem near12 (x : Int) (c : CF) (odd : Int) (a5 a6 : Option Addr) (q5 q6 : Nat) (w : World) (h : CFat c w (.slice a5 c.M.length q5) (.slice a6 c.C.length q6)) :
    Calls Try.prog 43 #[.agg #[.int .i64 x, .int .i64 c.e, .int .i64 c.b, .int .i64 c.k, .slice a5 c.M.length q5, .slice a6 c.C.length q6], .int .i64 odd] w (Near12 x odd w) := by
  have hx := alloc_far (o := .cells #[.int .i64 0, .int .i64 0, .int .i64 0, .int .i64 0, .slice none 0 0, .slice none 0 0] 44) (heap_alloc_self w (.cells #[.int .i64 x, .int .i64 c.e, .int .i64 c.b, .int .i64 c.k, .slice a5 c.M.length q5, .slice a6 c.C.length q6] 44))
  have hy := heap_alloc_self (w.alloc (.cells #[.int .i64 x, .int .i64 c.e, .int .i64 c.b, .int .i64 c.k, .slice a5 c.M.length q5, .slice a6 c.C.length q6] 44)) (.cells #[.int .i64 0, .int .i64 0, .int .i64 0, .int .i64 0, .slice none 0 0, .slice none 0 0] 44)
  have hz : (w.alloc (.cells #[.int .i64 x, .int .i64 c.e, .int .i64 c.b, .int .i64 c.k, .slice a5 c.M.length q5, .slice a6 c.C.length q6] 44)).heap.size = w.heap.size + 1 := by simp
  rw [hz] at hy
  have hb : Below w.heap.size w ((w.alloc (.cells #[.int .i64 x, .int .i64 c.e, .int .i64 c.b, .int .i64 c.k, .slice a5 c.M.length q5, .slice a6 c.C.length q6] 44)).alloc (.cells #[.int .i64 0, .int .i64 0, .int .i64 0, .int .i64 0, .slice none 0 0, .slice none 0 0] 44)) := ((Below.refl _ _).alloc (Nat.le_refl _) _).alloc (by simp) _
  have hm3 : bits .and .i64 x 3 = x % 4 := mask_mod x 2 3 (by decide) (by decide)
  go_enter Try.func43, Try.ntmps43
  go_upto_region 1 with fail
  generalize (w.alloc (.cells #[.int .i64 x, .int .i64 c.e, .int .i64 c.b, .int .i64 c.k, .slice a5 c.M.length q5, .slice a6 c.C.length q6] 44)).alloc (.cells #[.int .i64 0, .int .i64 0, .int .i64 0, .int .i64 0, .slice none 0 0, .slice none 0 0] 44) = W at *
  have c0 := cell_atD hx 0 (v := .int .i64 x) rfl
  have c1 := cell_atD hx 1 (v := .int .i64 c.e) rfl
  have c2 := cell_atD hx 2 (v := .int .i64 c.b) rfl
  have c3 := cell_atD hx 3 (v := .int .i64 c.k) rfl
  have c4 := cell_atD hx 4 (v := .slice a5 c.M.length q5) rfl
  have c5 := cell_atD hx 5 (v := .slice a6 c.C.length q6) rfl
  obtain ⟨N, hN⟩ : ∃ N, w.heap.size + 1 = N := ⟨_, rfl⟩
  have hlt : w.heap.size < N := by omega
  have hNW : N ≤ W.heap.size := by have := lt_heap hy; omega
  obtain ⟨O, hO⟩ : ∃ O, O = bits .or .i64 odd 1 := ⟨_, rfl⟩
  have cN := fun w' (h' : N ≤ w'.heap.size ∧ Below N W w') => near11 c a5 a6 q5 q6 (bits .or .i64 odd 1) N w' h'.1 (h.below (hb.trans (h'.2.mono (by omega))))
  have hNN : N ≤ N := Nat.le_refl _
  have HB := Lib.hid (And.intro hb (And.intro hx (And.intro h hN)))
  rw [hN] at hy
  simp only [hN]
  clear hb hx hz h hN hO
  go_region_held3 (fun w' => N ≤ w'.heap.size ∧ Below N W w' ∧ ∀ b o, b < N → w'.cell? ⟨b, o, none⟩ = W.cell? ⟨b, o, none⟩) (first | with_reducible exact keeps_set6 (by assumption) hNN | with_reducible exact keeps_next (by assumption) (by assumption) | exact keepsU_start hNW) (first | (go_at_call 56; (with_reducible refine Calls.mono (cN _ ?hk) ?_); (case hk => exact keepsU_two (by assumption)); rintro e wz ⟨de, db, dk, n1, n2, a1, p1, a2, p2, rfl, hD, hbz, hzz⟩; replace hy := below_at hbz (lt_heap hy) hy; have y0 := cell_atD hy 0 (v := .int .i64 0) rfl; have f0 : wz.frozen? ⟨N, 0, none⟩ = false := (by simp [World.frozen?, hy]); have y1 := cell_atD hy 1 (v := .int .i64 0) rfl; have f1 : wz.frozen? ⟨N, 1, none⟩ = false := (by simp [World.frozen?, hy]); have y2 := cell_atD hy 2 (v := .int .i64 0) rfl; have f2 : wz.frozen? ⟨N, 2, none⟩ = false := (by simp [World.frozen?, hy]); have y3 := cell_atD hy 3 (v := .int .i64 0) rfl; have f3 : wz.frozen? ⟨N, 3, none⟩ = false := (by simp [World.frozen?, hy]); have y4 := cell_atD hy 4 (v := .slice none 0 0) rfl; have f4 : wz.frozen? ⟨N, 4, none⟩ = false := (by simp [World.frozen?, hy]); have y5 := cell_atD hy 5 (v := .slice none 0 0) rfl; have f5 : wz.frozen? ⟨N, 5, none⟩ = false := (by simp [World.frozen?, hy]); clear hbz))
  rename_i hfin
  have g1 : (wz.setCell ⟨N, 0, none⟩ (.int .i64 (x % 4))).heap[N]? = some (.cells #[.int .i64 (x % 4), .int .i64 0, .int .i64 0, .int .i64 0, .slice none 0 0, .slice none 0 0] 44) := heap_set_self hy 0 _
  have g2 : ((wz.setCell ⟨N, 0, none⟩ (.int .i64 (x % 4))).setCell ⟨N, 1, none⟩ (.int .i64 de)).heap[N]? = some (.cells #[.int .i64 (x % 4), .int .i64 de, .int .i64 0, .int .i64 0, .slice none 0 0, .slice none 0 0] 44) := heap_set_self g1 1 _
  have g3 : (((wz.setCell ⟨N, 0, none⟩ (.int .i64 (x % 4))).setCell ⟨N, 1, none⟩ (.int .i64 de)).setCell ⟨N, 2, none⟩ (.int .i64 db)).heap[N]? = some (.cells #[.int .i64 (x % 4), .int .i64 de, .int .i64 db, .int .i64 0, .slice none 0 0, .slice none 0 0] 44) := heap_set_self g2 2 _
  have g4 : ((((wz.setCell ⟨N, 0, none⟩ (.int .i64 (x % 4))).setCell ⟨N, 1, none⟩ (.int .i64 de)).setCell ⟨N, 2, none⟩ (.int .i64 db)).setCell ⟨N, 3, none⟩ (.int .i64 dk)).heap[N]? = some (.cells #[.int .i64 (x % 4), .int .i64 de, .int .i64 db, .int .i64 dk, .slice none 0 0, .slice none 0 0] 44) := heap_set_self g3 3 _
  have g5 : (((((wz.setCell ⟨N, 0, none⟩ (.int .i64 (x % 4))).setCell ⟨N, 1, none⟩ (.int .i64 de)).setCell ⟨N, 2, none⟩ (.int .i64 db)).setCell ⟨N, 3, none⟩ (.int .i64 dk)).setCell ⟨N, 4, none⟩ (.slice a1 n1 p1)).heap[N]? = some (.cells #[.int .i64 (x % 4), .int .i64 de, .int .i64 db, .int .i64 dk, .slice a1 n1 p1, .slice none 0 0] 44) := heap_set_self g4 4 _
  have g6 : ((((((wz.setCell ⟨N, 0, none⟩ (.int .i64 (x % 4))).setCell ⟨N, 1, none⟩ (.int .i64 de)).setCell ⟨N, 2, none⟩ (.int .i64 db)).setCell ⟨N, 3, none⟩ (.int .i64 dk)).setCell ⟨N, 4, none⟩ (.slice a1 n1 p1)).setCell ⟨N, 5, none⟩ (.slice a2 n2 p2)).heap[N]? = some (.cells #[.int .i64 (x % 4), .int .i64 de, .int .i64 db, .int .i64 dk, .slice a1 n1 p1, .slice a2 n2 p2] 44) := heap_set_self g5 5 _
  have gI := Lib.hid g6
  have gO := Lib.hid (show Only N wz ((((((wz.setCell ⟨N, 0, none⟩ (.int .i64 (x % 4))).setCell ⟨N, 1, none⟩ (.int .i64 de)).setCell ⟨N, 2, none⟩ (.int .i64 db)).setCell ⟨N, 3, none⟩ (.int .i64 dk)).setCell ⟨N, 4, none⟩ (.slice a1 n1 p1)).setCell ⟨N, 5, none⟩ (.slice a2 n2 p2)) from (((((((Only.refl _ _).set 0 _).set 1 _).set 2 _).set 3 _).set 4 _).set 5 _))
  clear g1 g2 g3 g4 g5 g6
  have HF := Lib.hid (And.intro hfin hD)
  clear hfin hy hD cN y0 y1 y2 y3 y4 y5 f0 f1 f2 f3 f4 f5 c0 c1 c2 c3 c4 c5 hzz
  generalize ((((((wz.setCell ⟨N, 0, none⟩ (.int .i64 (x % 4))).setCell ⟨N, 1, none⟩ (.int .i64 de)).setCell ⟨N, 2, none⟩ (.int .i64 db)).setCell ⟨N, 3, none⟩ (.int .i64 dk)).setCell ⟨N, 4, none⟩ (.slice a1 n1 p1)).setCell ⟨N, 5, none⟩ (.slice a2 n2 p2)) = w2 at *
  obtain ⟨hfin, hD⟩ := HF.out
  obtain ⟨hb, hx, h, hN⟩ := HB.out
  have x2 : w2.heap[w.heap.size]? = _ := (hfin.2.1.block _ hlt).trans hx
  have y2 := gI.out
  have b2 : Below w.heap.size w w2 := hb.trans (hfin.2.1.mono (by omega))
  have d2 := hD.only gO.out
  have h1y : x = 1 → x % 4 = 1 := fun e => by subst e; rfl
  generalize x % 4 = y at *
  have HX := Lib.hid (And.intro h1y (And.intro x2 (And.intro y2 (And.intro b2 (And.intro d2 (And.intro h hN))))))
  clear hfin hD hb hx h hN HB HF gI gO h1y x2 y2 b2 d2 hm3 hlt hNN hNW
  have s0 := cell_atD HX.out.2.2.1 0 (v := .int .i64 y) rfl
  go_upto_block 0 with fail
  go_cut [] (fun wx => MidK x y N c a5 a6 q5 q6 w wx)
  case first =>
    clear s0
    by_cases y0 : y = 0
    · subst y0
      obtain ⟨h1y, x2, y2, b2, d2, h, hN⟩ := HX.out
      clear HX
      have s0 := cell_atD y2 0 (v := .int .i64 0) rfl
      have s1 := cell_atD y2 1 (v := .int .i64 de) rfl
      have s2 := cell_atD y2 2 (v := .int .i64 db) rfl
      have s3 := cell_atD y2 3 (v := .int .i64 dk) rfl
      have s4 := cell_atD y2 4 (v := .slice a1 n1 p1) rfl
      have s5 := cell_atD y2 5 (v := .slice a2 n2 p2) rfl
      have fz : ∀ j, w2.frozen? ⟨N, j, none⟩ = false := fun j => by simp [World.frozen?, y2]
      have k1 : (w2.setCell ⟨N, 1, none⟩ (.int .i64 0)).heap[N]? = some (.cells #[.int .i64 0, .int .i64 0, .int .i64 db, .int .i64 dk, .slice a1 n1 p1, .slice a2 n2 p2] 44) := heap_set_self y2 1 _
      have k2 : ((w2.setCell ⟨N, 1, none⟩ (.int .i64 0)).setCell ⟨N, 2, none⟩ (.int .i64 0)).heap[N]? = some (.cells #[.int .i64 0, .int .i64 0, .int .i64 0, .int .i64 dk, .slice a1 n1 p1, .slice a2 n2 p2] 44) := heap_set_self k1 2 _
      have k3 : (((w2.setCell ⟨N, 1, none⟩ (.int .i64 0)).setCell ⟨N, 2, none⟩ (.int .i64 0)).setCell ⟨N, 3, none⟩ (.int .i64 0)).heap[N]? = some (.cells #[.int .i64 0, .int .i64 0, .int .i64 0, .int .i64 0, .slice a1 n1 p1, .slice a2 n2 p2] 44) := heap_set_self k2 3 _
      have k4 : ((((w2.setCell ⟨N, 1, none⟩ (.int .i64 0)).setCell ⟨N, 2, none⟩ (.int .i64 0)).setCell ⟨N, 3, none⟩ (.int .i64 0)).setCell ⟨N, 4, none⟩ (.slice none 0 0)).heap[N]? = some (.cells #[.int .i64 0, .int .i64 0, .int .i64 0, .int .i64 0, .slice none 0 0, .slice a2 n2 p2] 44) := heap_set_self k3 4 _
      have k5 : (((((w2.setCell ⟨N, 1, none⟩ (.int .i64 0)).setCell ⟨N, 2, none⟩ (.int .i64 0)).setCell ⟨N, 3, none⟩ (.int .i64 0)).setCell ⟨N, 4, none⟩ (.slice none 0 0)).setCell ⟨N, 5, none⟩ (.slice none 0 0)).heap[N]? = some (.cells #[.int .i64 0, .int .i64 0, .int .i64 0, .int .i64 0, .slice none 0 0, .slice none 0 0] 44) := heap_set_self k4 5 _
      have kI := Lib.hid k5
      have kO := Lib.hid (show Only N w2 (((((w2.setCell ⟨N, 1, none⟩ (.int .i64 0)).setCell ⟨N, 2, none⟩ (.int .i64 0)).setCell ⟨N, 3, none⟩ (.int .i64 0)).setCell ⟨N, 4, none⟩ (.slice none 0 0)).setCell ⟨N, 5, none⟩ (.slice none 0 0)) from ((((((Only.refl _ _).set 1 _).set 2 _).set 3 _).set 4 _).set 5 _))
      clear k1 k2 k3 k4 k5
      have HM := Lib.hid (show MidK x 0 N c a5 a6 q5 q6 w (((((w2.setCell ⟨N, 1, none⟩ (.int .i64 0)).setCell ⟨N, 2, none⟩ (.int .i64 0)).setCell ⟨N, 3, none⟩ (.int .i64 0)).setCell ⟨N, 4, none⟩ (.slice none 0 0)).setCell ⟨N, 5, none⟩ (.slice none 0 0)) from ⟨0, 0, 0, 0, 0, none, 0, none, 0, kI.out, (kO.out.block _ (lt_heap x2) (by omega)).trans x2, b2.trans (kO.out.below (B := w.heap.size) (by omega) b2.size), ListsN.nil _ _, fun e => absurd (h1y e) (by decide)⟩)
      clear h1y x2 y2 b2 d2 h hN kI kO
      go_wp2_with fail
      go_meet
      exact HM.out
    by_cases y1 : y = 1
    · subst y1
      obtain ⟨h1y, x2, y2, b2, d2, h, hN⟩ := HX.out
      clear HX
      have s0 := cell_atD y2 0 (v := .int .i64 1) rfl
      have s1 := cell_atD y2 1 (v := .int .i64 de) rfl
      have s2 := cell_atD y2 2 (v := .int .i64 db) rfl
      have s3 := cell_atD y2 3 (v := .int .i64 dk) rfl
      have s4 := cell_atD y2 4 (v := .slice a1 n1 p1) rfl
      have s5 := cell_atD y2 5 (v := .slice a2 n2 p2) rfl
      have fz : ∀ j, w2.frozen? ⟨N, j, none⟩ = false := fun j => by simp [World.frozen?, y2]
      have k1 : (w2.setCell ⟨N, 1, none⟩ (.int .i64 0)).heap[N]? = some (.cells #[.int .i64 1, .int .i64 0, .int .i64 db, .int .i64 dk, .slice a1 n1 p1, .slice a2 n2 p2] 44) := heap_set_self y2 1 _
      have kI := Lib.hid k1
      have kO := Lib.hid (show Only N w2 (w2.setCell ⟨N, 1, none⟩ (.int .i64 0)) from ((Only.refl _ _).set 1 _))
      clear k1
      have HM := Lib.hid (show MidK x 1 N c a5 a6 q5 q6 w (w2.setCell ⟨N, 1, none⟩ (.int .i64 0)) from ⟨0, db, dk, n1, n2, a1, p1, a2, p2, kI.out, (kO.out.block _ (lt_heap x2) (by omega)).trans x2, b2.trans (kO.out.below (B := w.heap.size) (by omega) b2.size), d2.only kO.out, fun _ => ⟨rfl, rfl⟩⟩)
      clear h1y x2 y2 b2 d2 h hN kI kO
      go_wp2_with fail
      go_meet
      exact HM.out
    by_cases y2 : y = 2
    · subst y2
      obtain ⟨h1y, x2, y2, b2, d2, h, hN⟩ := HX.out
      clear HX
      have c1 := cell_atD x2 1 (v := .int .i64 c.e) rfl
      have m7 : bits .and .i64 c.e 7 = c.e % 8 := mask_mod c.e 3 7 (by decide) (by decide)
      have m1 : bits .and .i64 odd 1 = odd % 2 := mask_mod odd 1 1 (by decide) (by decide)
      have r7 : 0 ≤ c.e % 8 ∧ c.e % 8 ≤ 7 := by omega
      have r1 : 0 ≤ odd % 2 ∧ odd % 2 ≤ 1 := by omega
      generalize c.e % 8 = E8 at m7 r7
      generalize odd % 2 = O1 at m1 r1
      have s0 := cell_atD y2 0 (v := .int .i64 2) rfl
      have s1 := cell_atD y2 1 (v := .int .i64 de) rfl
      have s2 := cell_atD y2 2 (v := .int .i64 db) rfl
      have s3 := cell_atD y2 3 (v := .int .i64 dk) rfl
      have s4 := cell_atD y2 4 (v := .slice a1 n1 p1) rfl
      have s5 := cell_atD y2 5 (v := .slice a2 n2 p2) rfl
      have fz : ∀ j, w2.frozen? ⟨N, j, none⟩ = false := fun j => by simp [World.frozen?, y2]
      have k1 : (w2.setCell ⟨N, 1, none⟩ (.int .i64 (E8 + O1))).heap[N]? = some (.cells #[.int .i64 2, .int .i64 (E8 + O1), .int .i64 db, .int .i64 dk, .slice a1 n1 p1, .slice a2 n2 p2] 44) := heap_set_self y2 1 _
      have k2 : ((w2.setCell ⟨N, 1, none⟩ (.int .i64 (E8 + O1))).setCell ⟨N, 2, none⟩ (.int .i64 0)).heap[N]? = some (.cells #[.int .i64 2, .int .i64 (E8 + O1), .int .i64 0, .int .i64 dk, .slice a1 n1 p1, .slice a2 n2 p2] 44) := heap_set_self k1 2 _
      have k3 : (((w2.setCell ⟨N, 1, none⟩ (.int .i64 (E8 + O1))).setCell ⟨N, 2, none⟩ (.int .i64 0)).setCell ⟨N, 3, none⟩ (.int .i64 0)).heap[N]? = some (.cells #[.int .i64 2, .int .i64 (E8 + O1), .int .i64 0, .int .i64 0, .slice a1 n1 p1, .slice a2 n2 p2] 44) := heap_set_self k2 3 _
      have k4 : ((((w2.setCell ⟨N, 1, none⟩ (.int .i64 (E8 + O1))).setCell ⟨N, 2, none⟩ (.int .i64 0)).setCell ⟨N, 3, none⟩ (.int .i64 0)).setCell ⟨N, 4, none⟩ (.slice none 0 0)).heap[N]? = some (.cells #[.int .i64 2, .int .i64 (E8 + O1), .int .i64 0, .int .i64 0, .slice none 0 0, .slice a2 n2 p2] 44) := heap_set_self k3 4 _
      have k5 : (((((w2.setCell ⟨N, 1, none⟩ (.int .i64 (E8 + O1))).setCell ⟨N, 2, none⟩ (.int .i64 0)).setCell ⟨N, 3, none⟩ (.int .i64 0)).setCell ⟨N, 4, none⟩ (.slice none 0 0)).setCell ⟨N, 5, none⟩ (.slice none 0 0)).heap[N]? = some (.cells #[.int .i64 2, .int .i64 (E8 + O1), .int .i64 0, .int .i64 0, .slice none 0 0, .slice none 0 0] 44) := heap_set_self k4 5 _
      have kI := Lib.hid k5
      have kO := Lib.hid (show Only N w2 (((((w2.setCell ⟨N, 1, none⟩ (.int .i64 (E8 + O1))).setCell ⟨N, 2, none⟩ (.int .i64 0)).setCell ⟨N, 3, none⟩ (.int .i64 0)).setCell ⟨N, 4, none⟩ (.slice none 0 0)).setCell ⟨N, 5, none⟩ (.slice none 0 0)) from ((((((Only.refl _ _).set 1 _).set 2 _).set 3 _).set 4 _).set 5 _))
      clear k1 k2 k3 k4 k5
      have HM := Lib.hid (show MidK x 2 N c a5 a6 q5 q6 w (((((w2.setCell ⟨N, 1, none⟩ (.int .i64 (E8 + O1))).setCell ⟨N, 2, none⟩ (.int .i64 0)).setCell ⟨N, 3, none⟩ (.int .i64 0)).setCell ⟨N, 4, none⟩ (.slice none 0 0)).setCell ⟨N, 5, none⟩ (.slice none 0 0)) from ⟨E8 + O1, 0, 0, 0, 0, none, 0, none, 0, kI.out, (kO.out.block _ (lt_heap x2) (by omega)).trans x2, b2.trans (kO.out.below (B := w.heap.size) (by omega) b2.size), ListsN.nil _ _, fun e => absurd (h1y e) (by decide)⟩)
      clear h1y x2 y2 b2 d2 h hN kI kO
      go_wp2_with fail
      go_meet
      exact HM.out
    have h0 : (y == 0) = false := by simpa using y0
    have h1 : (y == 1) = false := by simpa using y1
    have h2 : (y == 2) = false := by simpa using y2
    obtain ⟨h1y, x2, yy, b2, d2, h, hN⟩ := HX.out
    clear HX
    have s0 := cell_atD yy 0 (v := .int .i64 y) rfl
    have HM := Lib.hid (show MidK x y N c a5 a6 q5 q6 w w2 from ⟨de, db, dk, n1, n2, a1, p1, a2, p2, yy, x2, b2, d2, fun e => absurd (h1y e) y1⟩)
    clear h1y x2 yy b2 d2 h hN y0 y1 y2
    go_wp2_with fail
    go_meet
    exact HM.out
  case rest =>
    have h := HX.out.2.2.2.2.2.1
    have hN := HX.out.2.2.2.2.2.2
    clear HX s0
    obtain ⟨de, db, dk, n1, n2, a1, p1, a2, p2, yy, x2, b2, d2, he⟩ := hcut
    have m31 : bits .and .i64 odd 31 = odd % 32 := mask_mod odd 5 31 (by decide) (by decide)
    have s0 := cell_atD yy 0 (v := .int .i64 y) rfl
    have s1 := cell_atD yy 1 (v := .int .i64 de) rfl
    have s2 := cell_atD yy 2 (v := .int .i64 db) rfl
    have s3 := cell_atD yy 3 (v := .int .i64 dk) rfl
    have s4 := cell_atD yy 4 (v := .slice a1 n1 p1) rfl
    have s5 := cell_atD yy 5 (v := .slice a2 n2 p2) rfl
    have fz : ∀ j, wc.frozen? ⟨N, j, none⟩ = false := fun j => by simp [World.frozen?, yy]
    rcases ho : odd % 32 == 31
    · have ho' : ¬ (odd % 32 = 31) := by simpa using ho
      have k1 : (wc.setCell ⟨N, 0, none⟩ (.int .i64 y)).heap[N]? = some (.cells #[.int .i64 y, .int .i64 de, .int .i64 db, .int .i64 dk, .slice a1 n1 p1, .slice a2 n2 p2] 44) := heap_set_self yy 0 _
      have k2 : ((wc.setCell ⟨N, 0, none⟩ (.int .i64 y)).setCell ⟨N, 1, none⟩ (.int .i64 de)).heap[N]? = some (.cells #[.int .i64 y, .int .i64 de, .int .i64 db, .int .i64 dk, .slice a1 n1 p1, .slice a2 n2 p2] 44) := heap_set_self k1 1 _
      have k3 : (((wc.setCell ⟨N, 0, none⟩ (.int .i64 y)).setCell ⟨N, 1, none⟩ (.int .i64 de)).setCell ⟨N, 2, none⟩ (.int .i64 db)).heap[N]? = some (.cells #[.int .i64 y, .int .i64 de, .int .i64 db, .int .i64 dk, .slice a1 n1 p1, .slice a2 n2 p2] 44) := heap_set_self k2 2 _
      have k4 : ((((wc.setCell ⟨N, 0, none⟩ (.int .i64 y)).setCell ⟨N, 1, none⟩ (.int .i64 de)).setCell ⟨N, 2, none⟩ (.int .i64 db)).setCell ⟨N, 3, none⟩ (.int .i64 dk)).heap[N]? = some (.cells #[.int .i64 y, .int .i64 de, .int .i64 db, .int .i64 dk, .slice a1 n1 p1, .slice a2 n2 p2] 44) := heap_set_self k3 3 _
      have k5 : (((((wc.setCell ⟨N, 0, none⟩ (.int .i64 y)).setCell ⟨N, 1, none⟩ (.int .i64 de)).setCell ⟨N, 2, none⟩ (.int .i64 db)).setCell ⟨N, 3, none⟩ (.int .i64 dk)).setCell ⟨N, 4, none⟩ (.slice a1 n1 p1)).heap[N]? = some (.cells #[.int .i64 y, .int .i64 de, .int .i64 db, .int .i64 dk, .slice a1 n1 p1, .slice a2 n2 p2] 44) := heap_set_self k4 4 _
      have k6 : ((((((wc.setCell ⟨N, 0, none⟩ (.int .i64 y)).setCell ⟨N, 1, none⟩ (.int .i64 de)).setCell ⟨N, 2, none⟩ (.int .i64 db)).setCell ⟨N, 3, none⟩ (.int .i64 dk)).setCell ⟨N, 4, none⟩ (.slice a1 n1 p1)).setCell ⟨N, 5, none⟩ (.slice a2 n2 p2)).heap[N]? = some (.cells #[.int .i64 y, .int .i64 de, .int .i64 db, .int .i64 dk, .slice a1 n1 p1, .slice a2 n2 p2] 44) := heap_set_self k5 5 _
      have kI := Lib.hid k6
      have kO := Lib.hid (show Only N wc ((((((wc.setCell ⟨N, 0, none⟩ (.int .i64 y)).setCell ⟨N, 1, none⟩ (.int .i64 de)).setCell ⟨N, 2, none⟩ (.int .i64 db)).setCell ⟨N, 3, none⟩ (.int .i64 dk)).setCell ⟨N, 4, none⟩ (.slice a1 n1 p1)).setCell ⟨N, 5, none⟩ (.slice a2 n2 p2)) from (((((((Only.refl _ _).set 0 _).set 1 _).set 2 _).set 3 _).set 4 _).set 5 _))
      clear k1 k2 k3 k4 k5 k6
      have HM := Lib.hid (And.intro x2 (And.intro b2 (And.intro d2 (And.intro he (And.intro h hN)))))
      clear x2 yy b2 d2 he h hN
      go_wp2_with fail
      generalize ((((((wc.setCell ⟨N, 0, none⟩ (.int .i64 y)).setCell ⟨N, 1, none⟩ (.int .i64 de)).setCell ⟨N, 2, none⟩ (.int .i64 db)).setCell ⟨N, 3, none⟩ (.int .i64 dk)).setCell ⟨N, 4, none⟩ (.slice a1 n1 p1)).setCell ⟨N, 5, none⟩ (.slice a2 n2 p2)) = wf at *
      have fi := kI.out
      have t0 := cell_atD fi 0 (v := .int .i64 y) rfl
      have t1 := cell_atD fi 1 (v := .int .i64 de) rfl
      have t2 := cell_atD fi 2 (v := .int .i64 db) rfl
      have t3 := cell_atD fi 3 (v := .int .i64 dk) rfl
      have t4 := cell_atD fi 4 (v := .slice a1 n1 p1) rfl
      have t5 := cell_atD fi 5 (v := .slice a2 n2 p2) rfl
      clear fi
      refine bodyPost_ret (v := .agg #[.int .i64 y, .int .i64 de, .int .i64 db, .int .i64 dk, .slice a1 n1 p1, .slice a2 n2 p2]) (by simp [results, Try.results43, go_sem, t0, t1, t2, t3, t4, t5]) rfl ?_
      obtain ⟨x2, b2, d2, he, h, hN⟩ := HM.out
      obtain ⟨M, C, rfl, ⟨rfl, -, -⟩, l1, l2, -, -⟩ := d2.only kO.out
      exact ⟨y, ⟨de, db, dk, M, C⟩, a1, p1, a2, p2, rfl, ⟨l1, l2⟩, b2.trans (kO.out.below (B := w.heap.size) (by omega) b2.size), fun _ => he⟩
    · have ho' : odd % 32 = 31 := by simpa using ho
      have c0 := cell_atD x2 0 (v := .int .i64 x) rfl
      have c1 := cell_atD x2 1 (v := .int .i64 c.e) rfl
      have c2 := cell_atD x2 2 (v := .int .i64 c.b) rfl
      have c3 := cell_atD x2 3 (v := .int .i64 c.k) rfl
      have c4 := cell_atD x2 4 (v := .slice a5 c.M.length q5) rfl
      have c5 := cell_atD x2 5 (v := .slice a6 c.C.length q6) rfl
      have k1 : (wc.setCell ⟨N, 0, none⟩ (.int .i64 x)).heap[N]? = some (.cells #[.int .i64 x, .int .i64 de, .int .i64 db, .int .i64 dk, .slice a1 n1 p1, .slice a2 n2 p2] 44) := heap_set_self yy 0 _
      have k2 : ((wc.setCell ⟨N, 0, none⟩ (.int .i64 x)).setCell ⟨N, 1, none⟩ (.int .i64 c.e)).heap[N]? = some (.cells #[.int .i64 x, .int .i64 c.e, .int .i64 db, .int .i64 dk, .slice a1 n1 p1, .slice a2 n2 p2] 44) := heap_set_self k1 1 _
      have k3 : (((wc.setCell ⟨N, 0, none⟩ (.int .i64 x)).setCell ⟨N, 1, none⟩ (.int .i64 c.e)).setCell ⟨N, 2, none⟩ (.int .i64 c.b)).heap[N]? = some (.cells #[.int .i64 x, .int .i64 c.e, .int .i64 c.b, .int .i64 dk, .slice a1 n1 p1, .slice a2 n2 p2] 44) := heap_set_self k2 2 _
      have k4 : ((((wc.setCell ⟨N, 0, none⟩ (.int .i64 x)).setCell ⟨N, 1, none⟩ (.int .i64 c.e)).setCell ⟨N, 2, none⟩ (.int .i64 c.b)).setCell ⟨N, 3, none⟩ (.int .i64 c.k)).heap[N]? = some (.cells #[.int .i64 x, .int .i64 c.e, .int .i64 c.b, .int .i64 c.k, .slice a1 n1 p1, .slice a2 n2 p2] 44) := heap_set_self k3 3 _
      have k5 : (((((wc.setCell ⟨N, 0, none⟩ (.int .i64 x)).setCell ⟨N, 1, none⟩ (.int .i64 c.e)).setCell ⟨N, 2, none⟩ (.int .i64 c.b)).setCell ⟨N, 3, none⟩ (.int .i64 c.k)).setCell ⟨N, 4, none⟩ (.slice a5 c.M.length q5)).heap[N]? = some (.cells #[.int .i64 x, .int .i64 c.e, .int .i64 c.b, .int .i64 c.k, .slice a5 c.M.length q5, .slice a2 n2 p2] 44) := heap_set_self k4 4 _
      have k6 : ((((((wc.setCell ⟨N, 0, none⟩ (.int .i64 x)).setCell ⟨N, 1, none⟩ (.int .i64 c.e)).setCell ⟨N, 2, none⟩ (.int .i64 c.b)).setCell ⟨N, 3, none⟩ (.int .i64 c.k)).setCell ⟨N, 4, none⟩ (.slice a5 c.M.length q5)).setCell ⟨N, 5, none⟩ (.slice a6 c.C.length q6)).heap[N]? = some (.cells #[.int .i64 x, .int .i64 c.e, .int .i64 c.b, .int .i64 c.k, .slice a5 c.M.length q5, .slice a6 c.C.length q6] 44) := heap_set_self k5 5 _
      have kI := Lib.hid k6
      have kO := Lib.hid (show Only N wc ((((((wc.setCell ⟨N, 0, none⟩ (.int .i64 x)).setCell ⟨N, 1, none⟩ (.int .i64 c.e)).setCell ⟨N, 2, none⟩ (.int .i64 c.b)).setCell ⟨N, 3, none⟩ (.int .i64 c.k)).setCell ⟨N, 4, none⟩ (.slice a5 c.M.length q5)).setCell ⟨N, 5, none⟩ (.slice a6 c.C.length q6)) from (((((((Only.refl _ _).set 0 _).set 1 _).set 2 _).set 3 _).set 4 _).set 5 _))
      clear k1 k2 k3 k4 k5 k6
      have HM := Lib.hid (And.intro x2 (And.intro b2 (And.intro d2 (And.intro he (And.intro h hN)))))
      clear x2 yy b2 d2 he h hN
      go_upto_region 11 with fail
      generalize ((((((wc.setCell ⟨N, 0, none⟩ (.int .i64 x)).setCell ⟨N, 1, none⟩ (.int .i64 c.e)).setCell ⟨N, 2, none⟩ (.int .i64 c.b)).setCell ⟨N, 3, none⟩ (.int .i64 c.k)).setCell ⟨N, 4, none⟩ (.slice a5 c.M.length q5)).setCell ⟨N, 5, none⟩ (.slice a6 c.C.length q6)) = wd at *
      clear fz c0 c1 c2 c3 c4 c5 s0 s1 s2 s3 s4 s5
      have yd := kI.out
      have KO := kO
      clear kI kO
      have s0 := cell_atD yd 0 (v := .int .i64 x) rfl
      have s1 := cell_atD yd 1 (v := .int .i64 c.e) rfl
      have s2 := cell_atD yd 2 (v := .int .i64 c.b) rfl
      have s3 := cell_atD yd 3 (v := .int .i64 c.k) rfl
      have s4 := cell_atD yd 4 (v := .slice a5 c.M.length q5) rfl
      have s5 := cell_atD yd 5 (v := .slice a6 c.C.length q6) rfl
      have fz : ∀ j, wd.frozen? ⟨N, j, none⟩ = false := fun j => by simp [World.frozen?, yd]
      have k1 : (wd.setCell ⟨N, 0, none⟩ (.int .i64 x)).heap[N]? = some (.cells #[.int .i64 x, .int .i64 c.e, .int .i64 c.b, .int .i64 c.k, .slice a5 c.M.length q5, .slice a6 c.C.length q6] 44) := heap_set_self yd 0 _
      have k2 : ((wd.setCell ⟨N, 0, none⟩ (.int .i64 x)).setCell ⟨N, 1, none⟩ (.int .i64 c.e)).heap[N]? = some (.cells #[.int .i64 x, .int .i64 c.e, .int .i64 c.b, .int .i64 c.k, .slice a5 c.M.length q5, .slice a6 c.C.length q6] 44) := heap_set_self k1 1 _
      have k3 : (((wd.setCell ⟨N, 0, none⟩ (.int .i64 x)).setCell ⟨N, 1, none⟩ (.int .i64 c.e)).setCell ⟨N, 2, none⟩ (.int .i64 c.b)).heap[N]? = some (.cells #[.int .i64 x, .int .i64 c.e, .int .i64 c.b, .int .i64 c.k, .slice a5 c.M.length q5, .slice a6 c.C.length q6] 44) := heap_set_self k2 2 _
      have k4 : ((((wd.setCell ⟨N, 0, none⟩ (.int .i64 x)).setCell ⟨N, 1, none⟩ (.int .i64 c.e)).setCell ⟨N, 2, none⟩ (.int .i64 c.b)).setCell ⟨N, 3, none⟩ (.int .i64 c.k)).heap[N]? = some (.cells #[.int .i64 x, .int .i64 c.e, .int .i64 c.b, .int .i64 c.k, .slice a5 c.M.length q5, .slice a6 c.C.length q6] 44) := heap_set_self k3 3 _
      have k5 : (((((wd.setCell ⟨N, 0, none⟩ (.int .i64 x)).setCell ⟨N, 1, none⟩ (.int .i64 c.e)).setCell ⟨N, 2, none⟩ (.int .i64 c.b)).setCell ⟨N, 3, none⟩ (.int .i64 c.k)).setCell ⟨N, 4, none⟩ (.slice a5 c.M.length q5)).heap[N]? = some (.cells #[.int .i64 x, .int .i64 c.e, .int .i64 c.b, .int .i64 c.k, .slice a5 c.M.length q5, .slice a6 c.C.length q6] 44) := heap_set_self k4 4 _
      have k6 : ((((((wd.setCell ⟨N, 0, none⟩ (.int .i64 x)).setCell ⟨N, 1, none⟩ (.int .i64 c.e)).setCell ⟨N, 2, none⟩ (.int .i64 c.b)).setCell ⟨N, 3, none⟩ (.int .i64 c.k)).setCell ⟨N, 4, none⟩ (.slice a5 c.M.length q5)).setCell ⟨N, 5, none⟩ (.slice a6 c.C.length q6)).heap[N]? = some (.cells #[.int .i64 x, .int .i64 c.e, .int .i64 c.b, .int .i64 c.k, .slice a5 c.M.length q5, .slice a6 c.C.length q6] 44) := heap_set_self k5 5 _
      have kI := Lib.hid k6
      have kO := Lib.hid (show Only N wd ((((((wd.setCell ⟨N, 0, none⟩ (.int .i64 x)).setCell ⟨N, 1, none⟩ (.int .i64 c.e)).setCell ⟨N, 2, none⟩ (.int .i64 c.b)).setCell ⟨N, 3, none⟩ (.int .i64 c.k)).setCell ⟨N, 4, none⟩ (.slice a5 c.M.length q5)).setCell ⟨N, 5, none⟩ (.slice a6 c.C.length q6)) from (((((((Only.refl _ _).set 0 _).set 1 _).set 2 _).set 3 _).set 4 _).set 5 _))
      clear k1 k2 k3 k4 k5 k6
      clear yd
      go_wp2_with fail
      generalize ((((((wd.setCell ⟨N, 0, none⟩ (.int .i64 x)).setCell ⟨N, 1, none⟩ (.int .i64 c.e)).setCell ⟨N, 2, none⟩ (.int .i64 c.b)).setCell ⟨N, 3, none⟩ (.int .i64 c.k)).setCell ⟨N, 4, none⟩ (.slice a5 c.M.length q5)).setCell ⟨N, 5, none⟩ (.slice a6 c.C.length q6)) = wf at *
      have fi := kI.out
      have t0 := cell_atD fi 0 (v := .int .i64 x) rfl
      have t1 := cell_atD fi 1 (v := .int .i64 c.e) rfl
      have t2 := cell_atD fi 2 (v := .int .i64 c.b) rfl
      have t3 := cell_atD fi 3 (v := .int .i64 c.k) rfl
      have t4 := cell_atD fi 4 (v := .slice a5 c.M.length q5) rfl
      have t5 := cell_atD fi 5 (v := .slice a6 c.C.length q6) rfl
      clear fi
      refine bodyPost_ret (v := .agg #[.int .i64 x, .int .i64 c.e, .int .i64 c.b, .int .i64 c.k, .slice a5 c.M.length q5, .slice a6 c.C.length q6]) (by simp [results, Try.results43, go_sem, t0, t1, t2, t3, t4, t5]) rfl ?_
      obtain ⟨x2, b2, d2, he, h, hN⟩ := HM.out
      have hof := KO.out.trans kO.out
      have hbf := b2.trans (hof.below (B := w.heap.size) (by omega) b2.size)
      exact ⟨x, c, a5, q5, a6, q6, rfl, h.below hbf, hbf, fun e => by omega⟩
end Go.Proofs.Ytkdmnhmlkcejfaa
