/-
  Several texts, laid together.
-/
import Derived.Test.YtjaaddjbmimjoaaMh11
import Derived.Test.YtjaaddjbmimjoaaMh20
import Derived.Test.YtjaaddjbmimjoaaMh1
/-
  A command near what was drawn: tarnlaw12.Near.
-/



namespace Go.Proofs.Ytjaaddjbmimjoaa
open Go.RowKit
set_option linter.unusedVariables false
set_option linter.unusedSimpArgs false

theorem keepsU_start {N : Nat} {w : World} (h : N ≤ w.heap.size) : N ≤ w.drew.heap.size ∧ Below N w w.drew ∧ ∀ b o, b < N → w.drew.cell? ⟨b, o, none⟩ = w.cell? ⟨b, o, none⟩ :=
  ⟨h, below_drew' (Below.refl _ _), fun _ _ _ => rfl⟩
theorem keepsU_two {N : Nat} {w w' : World} {X : Prop} (h1 : N ≤ w'.heap.size ∧ Below N w w' ∧ X) : N ≤ w'.heap.size ∧ Below N w w' := ⟨h1.1, h1.2.1⟩
theorem keeps_set6 {N : Nat} {w w' : World} {X : Prop} {b : Nat} {v0 v1 v2 v3 v4 v5 : Value} (h1 : N ≤ w'.heap.size ∧ Below N w w' ∧ X) (hb : N ≤ b) : N ≤ ((((((w'.setCell ⟨b, 0, none⟩ v0).setCell ⟨b, 1, none⟩ v1).setCell ⟨b, 2, none⟩ v2).setCell ⟨b, 3, none⟩ v3).setCell ⟨b, 4, none⟩ v4).setCell ⟨b, 5, none⟩ v5).heap.size ∧ Below N w ((((((w'.setCell ⟨b, 0, none⟩ v0).setCell ⟨b, 1, none⟩ v1).setCell ⟨b, 2, none⟩ v2).setCell ⟨b, 3, none⟩ v3).setCell ⟨b, 4, none⟩ v4).setCell ⟨b, 5, none⟩ v5) ∧ ∀ c k, c < N → ((((((w'.setCell ⟨b, 0, none⟩ v0).setCell ⟨b, 1, none⟩ v1).setCell ⟨b, 2, none⟩ v2).setCell ⟨b, 3, none⟩ v3).setCell ⟨b, 4, none⟩ v4).setCell ⟨b, 5, none⟩ v5).cell? ⟨c, k, none⟩ = w.cell? ⟨c, k, none⟩ :=
  have h := (((((h1.2.1.setCell (p := ⟨b, 0, none⟩) hb v0).setCell (p := ⟨b, 1, none⟩) hb v1).setCell (p := ⟨b, 2, none⟩) hb v2).setCell (p := ⟨b, 3, none⟩) hb v3).setCell (p := ⟨b, 4, none⟩) hb v4).setCell (p := ⟨b, 5, none⟩) hb v5
  ⟨by simpa using h1.1, h, fun c k hc => h.cell (p := ⟨c, k, none⟩) hc⟩
/-- two lists lie so -/
def Lists (N n1 n2 : Nat) (a1 : Option Addr) (p1 : Nat) (a2 : Option Addr) (p2 : Nat) (w : World) : Prop := ∃ M C : List Int, M.length = n1 ∧ (C.length = n2 ∧ n1 ≤ 1000 ∧ n2 ≤ 1000) ∧ SR w (.slice a1 n1 p1) 1 n1 (nCells M) ∧ SR w (.slice a2 n2 p2) 1 n2 (nCells C) ∧ (∀ b, (Value.slice a1 n1 p1).ownBlock = some b → N < b) ∧ ∀ b, (Value.slice a2 n2 p2).ownBlock = some b → N < b
theorem nearM_len (b odd : Int) (M C : List Int) : (nearM b odd M C).length ≤ 1000 := by
  have := low4_len M
  unfold nearM
  repeat' split
  all_goals first | (simp; done) | omega
theorem nearC_len (b odd : Int) (M C : List Int) : (nearC b odd M C).length ≤ 1000 := by
  have := low4_len C
  unfold nearC
  repeat' split
  all_goals first | (simp; done) | omega
theorem near11 (c : CF) (a5 a6 : Option Addr) (q5 q6 : Nat) (odd : Int) (N : Nat) (w : World) (hW : N ≤ w.heap.size) (h : CFat c w (.slice a5 c.M.length q5) (.slice a6 c.C.length q6)) :
    Calls Try.prog 47 #[.agg #[.int .i64 c.e, .int .i64 c.b, .int .i64 c.k, .slice a5 c.M.length q5, .slice a6 c.C.length q6], .int .i64 odd] w fun ev w' => ∃ e b k n1 n2 a1 p1 a2 p2, ev = .returned (.agg #[.int .i64 e, .int .i64 b, .int .i64 k, .slice a1 n1 p1, .slice a2 n2 p2]) ∧ Lists N n1 n2 a1 p1 a2 p2 w' ∧ Below w.heap.size w w' ∧ Stays N w w' := by
  refine (near_anyN c.e c.b c.k odd _ _ c.M c.C w h.1 h.2).mono ?_
  rintro ev w' ⟨v1, v2, rfl, h1, h2, hb, g1, g2⟩
  obtain ⟨a1, p1, rfl, -, -⟩ := h1.form
  obtain ⟨a2, p2, rfl, -, -⟩ := h2.form
  exact ⟨_, _, _, _, _, a1, p1, a2, p2, rfl, ⟨nearM c.b odd c.M c.C, nearC c.b odd c.M c.C, rfl, ⟨rfl, nearM_len c.b odd c.M c.C, nearC_len c.b odd c.M c.C⟩, h1, h2, fun b e => by have := g1 b e; omega, fun b e => by have := g2 b e; omega⟩, hb, stays_of hW hb⟩
theorem srOnlyN {w w' : World} {b size n : Nat} {v : Value} {xs : List Value} (h : SR w v size n xs) (ho : Only b w w') (hne : ∀ k, v.ownBlock = some k → b < k) : SR w' v size n xs := by
  obtain ⟨a, cap, rfl, h1, h2, h3, h4⟩ := h
  refine ⟨a, cap, rfl, h1, h2, h3, h4.imp id ?_⟩
  rintro ⟨g, off, rfl, hb, hc⟩
  have hg : b < g := hne g rfl
  exact ⟨g, off, rfl, Nat.lt_of_lt_of_le hb ho.size, fun j u hj => (World.cell?_of_block (a := ⟨g, off + j, none⟩) (ho.block g hb (by omega))).trans (hc j u hj)⟩
theorem Lists.only {N n1 n2 p1 p2 : Nat} {a1 a2 : Option Addr} {w w' : World} (h : Lists N n1 n2 a1 p1 a2 p2 w) (ho : Only N w w') : Lists N n1 n2 a1 p1 a2 p2 w' := by
  obtain ⟨M, C, e1, e2, l1, l2, g1, g2⟩ := h
  exact ⟨M, C, e1, e2, srOnlyN l1 ho g1, srOnlyN l2 ho g2, g1, g2⟩
theorem ListsN.nil (N : Nat) (w : World) : Lists N 0 0 none 0 none 0 w := ⟨[], [], rfl, ⟨rfl, by decide, by decide⟩, SR.nil_ _ _, SR.nil_ _ _, fun b e => by simp [Value.ownBlock] at e, fun b e => by simp [Value.ownBlock] at e⟩
def MidK (x y : Int) (N : Nat) (c : CF) (a5 a6 : Option Addr) (q5 q6 : Nat) (w wx : World) : Prop :=
  ∃ de db dk n1 n2 a1 p1 a2 p2, wx.heap[N]? = some (.cells #[.int .i64 y, .int .i64 de, .int .i64 db, .int .i64 dk, .slice a1 n1 p1, .slice a2 n2 p2] 26) ∧ wx.heap[w.heap.size]? = some (.cells #[.int .i64 x, .int .i64 c.e, .int .i64 c.b, .int .i64 c.k, .slice a5 c.M.length q5, .slice a6 c.C.length q6] 26) ∧ Below w.heap.size w wx ∧ Lists N n1 n2 a1 p1 a2 p2 wx ∧ (x = 1 → y = 1 ∧ de = 0)
end Go.Proofs.Ytjaaddjbmimjoaa
