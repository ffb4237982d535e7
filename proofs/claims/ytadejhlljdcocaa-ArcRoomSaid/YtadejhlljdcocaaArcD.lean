/-
  An arc: the last of a list goes (Pop, move, makeRoom).
-/
import Derived.Test.YtadejhlljdcocaaArcC
namespace Go.Proofs.Ytadejhlljdcocaa
open Go.RowKit
set_option linter.unusedVariables false
set_option linter.unusedSimpArgs false

def outV (o : Option Int) : Value := .tuple #[.int .i64 (o.getD 0), .bool o.isSome]
/-- the last of a list is the first of another one -/
def sMove (f t : Nat) (L : Nat → List Int) : (Nat → List Int) × Option Int :=
  match (L f).getLast? with
  | none => (L, none)
  | some x => (upd (upd L f (L f).dropLast) t (x :: (L t).erase x), some x)
def sRoom (W : Int) (was : Bool) (L : Nat → List Int) : (Nat → List Int) × Option Int :=
  if 0 < (L 0).length ∧ (W < (L 0).length ∨ ((L 0).length : Int) = W ∧ was = true) then sMove 0 2 L else sMove 1 3 L
theorem snoc_or (l : List Int) : l = [] ∨ ∃ m x, l = m ++ [x] := by
  rcases List.eq_nil_or_concat l with h | ⟨m, x, h⟩
  · exact .inl h
  · exact .inr ⟨m, x, by rw [h]; simp⟩
theorem sMove_nil (f t : Nat) (L : Nat → List Int) (h : L f = []) : sMove f t L = (L, none) := by simp [sMove, h]
theorem sMove_some (f t : Nat) (L : Nat → List Int) {l : List Int} {x : Int} (h : L f = l ++ [x]) : sMove f t L = (upd (upd L f l) t (x :: (L t).erase x), some x) := by simp [sMove, h]
theorem opopA0 (w : World) (N a k : Nat) (t : TypeId) (A : Array Value) (v : Value) (h : OrdA w N a k t A v []) : Calls Try.prog 141 #[.pointer (some ⟨a, k, none⟩)] w fun e w' => e = .returned (.tuple #[.int .i64 0, .bool false]) ∧ w = w' := by
  have c := olenA [] w N a k t A v h
  rw [show ((([] : List Int).length : Nat) : Int) = 0 from rfl] at c
  clear h
  go_enter Try.func141, Try.ntmps141
  go_wp2_with fail
  refine Calls.mono c ?_
  rintro e w1 ⟨rfl, rfl⟩
  go_wp2_with fail
  go_returns
  exact ⟨rfl, rfl⟩
set_option maxHeartbeats 1600000 in
theorem opopA (l : List Int) (x : Int) (w : World) (N a k : Nat) (t : TypeId) (A : Array Value) (v : Value) (h : OrdA w N a k t A v (l ++ [x])) (hl : l.length ≤ 1000000) : Calls Try.prog 141 #[.pointer (some ⟨a, k, none⟩)] w fun e w' => e = .returned (.tuple #[.int .i64 x, .bool true]) ∧ ∃ v', OrdA w' N a k t (A.setIfInBounds k v') v' l ∧ AKept w w' N a k t A v v' := by
  have hO := h
  have hc := h.at_
  have hf := obj_frozenA h.obj k
  have hr0 := h.row
  rcases h.row with ⟨rfl, he⟩ | ⟨g, cap, f, rfl, hg, hrow, hlc, hcm, hff⟩
  · simp at he
  · have hlen : (l ++ [x]).length = l.length + 1 := by simp
    have hx := hrow.cell (i := l.length) (by omega)
    rw [hff l.length (by omega)] at hx
    simp only [List.getD_eq_getElem?_getD, List.getElem?_append_right (Nat.le_refl _), Nat.sub_self, List.getElem?_cons_zero, Option.getD_some] at hx
    have hr1 : RowAt w N (.slice (some ⟨g, 0, none⟩) l.length cap) l := .inr ⟨g, cap, f, rfl, hg, hrow, by omega, hcm, fun j hj => by
      rw [hff j (by omega), List.getD_eq_getElem?_getD, List.getElem?_append_left hj, ← List.getD_eq_getElem?_getD]⟩
    have hput := put_ordA hO (World.grownBy.refl w _) hr1 (.inl rfl)
    have hol := olenA (l ++ [x]) w N a k t A _ hO
    rw [hlen] at hol hc hlc
    clear hff hrow hr0 hO h
    have hcap : (cap : Int) ≤ 9223372036854775807 := by unfold maxLen at hcm; omega
    go_enter Try.func141, Try.ntmps141
    go_wp2_with fail
    refine Calls.mono hol ?_
    rintro e w1 ⟨rfl, rfl⟩
    go_wp2_with fail
    all_goals go_returns
    all_goals exact ⟨rfl, _, hput.2.1, hput.2.2⟩
set_option maxHeartbeats 1600000 in
theorem amove02 (w : World) (N a : Nat) (R W : Int) (V : Nat → Value) (L : Nat → List Int) (h : ArcAt w N a R W V L) (hl : ∀ i, i < 4 → (L i).length ≤ 100000) :
    Calls Try.prog 180 #[.pointer (some ⟨a, 0, none⟩), .int .i64 0, .int .i64 2] w fun e w' => e = .returned (outV (sMove 0 2 L).2) ∧ ∃ V', ArcAt w' N a R W V' (sMove 0 2 L).1 ∧ ArcKept w w' N a V V' := by
  rcases snoc_or (L 0) with hL | ⟨l, x, hL⟩
  · have c := opopA0 w N a _ _ _ _ (hL ▸ h.ord 0 (by decide))
    rw [sMove_nil _ _ _ hL]
    have HH := Lib.hid h
    clear h hl hL
    unfold outV
    go_enter Try.func180, Try.ntmps180
    go_wp2_with fail
    refine Calls.mono c ?_
    rintro e w1 ⟨rfl, rfl⟩
    go_wp2_with fail
    go_returns
    exact ⟨rfl, V, HH.out, ArcKept.refl _ _ _ _⟩
  · have hl2 := hl 2 (by decide)
    have hl1 : l.length ≤ 100000 := by have := hl 0 (by decide); rw [hL] at this; simp at this; omega
    have c := opopA l x w N a _ _ _ _ (hL ▸ h.ord 0 (by decide)) (by omega)
    rw [sMove_some _ _ _ hL]
    have HH := Lib.hid h
    clear h hl hL
    unfold outV
    go_enter Try.func180, Try.ntmps180
    go_wp2_with fail
    refine Calls.mono c ?_
    rintro e w1 ⟨rfl, v1, ho1, hk1⟩
    obtain ⟨hA1, hK1⟩ := HH.out.step 0 (by decide) ho1 hk1
    have cu := ouseA (L 2) x w1 N a _ _ _ _ (hA1.ord 2 (by decide)) (by omega)
    have HA1 := Lib.hid (And.intro hA1 hK1)
    clear hA1 hK1 ho1 hk1 c
    go_wp2_with fail
    refine Calls.mono cu ?_
    rintro e w2 ⟨rfl, v2, ho2, hk2⟩
    obtain ⟨hA2, hK2⟩ := HA1.out.1.step 2 (by decide) ho2 hk2
    clear ho2 hk2 cu
    go_wp2_with fail
    go_returns
    exact ⟨rfl, _, hA2, HA1.out.2.trans hK2⟩
set_option maxHeartbeats 1600000 in
theorem amove13 (w : World) (N a : Nat) (R W : Int) (V : Nat → Value) (L : Nat → List Int) (h : ArcAt w N a R W V L) (hl : ∀ i, i < 4 → (L i).length ≤ 100000) :
    Calls Try.prog 180 #[.pointer (some ⟨a, 0, none⟩), .int .i64 1, .int .i64 3] w fun e w' => e = .returned (outV (sMove 1 3 L).2) ∧ ∃ V', ArcAt w' N a R W V' (sMove 1 3 L).1 ∧ ArcKept w w' N a V V' := by
  rcases snoc_or (L 1) with hL | ⟨l, x, hL⟩
  · have c := opopA0 w N a _ _ _ _ (hL ▸ h.ord 1 (by decide))
    rw [sMove_nil _ _ _ hL]
    have HH := Lib.hid h
    clear h hl hL
    unfold outV
    go_enter Try.func180, Try.ntmps180
    go_wp2_with fail
    refine Calls.mono c ?_
    rintro e w1 ⟨rfl, rfl⟩
    go_wp2_with fail
    go_returns
    exact ⟨rfl, V, HH.out, ArcKept.refl _ _ _ _⟩
  · have hl2 := hl 3 (by decide)
    have hl1 : l.length ≤ 100000 := by have := hl 1 (by decide); rw [hL] at this; simp at this; omega
    have c := opopA l x w N a _ _ _ _ (hL ▸ h.ord 1 (by decide)) (by omega)
    rw [sMove_some _ _ _ hL]
    have HH := Lib.hid h
    clear h hl hL
    unfold outV
    go_enter Try.func180, Try.ntmps180
    go_wp2_with fail
    refine Calls.mono c ?_
    rintro e w1 ⟨rfl, v1, ho1, hk1⟩
    obtain ⟨hA1, hK1⟩ := HH.out.step 1 (by decide) ho1 hk1
    have cu := ouseA (L 3) x w1 N a _ _ _ _ (hA1.ord 3 (by decide)) (by omega)
    have HA1 := Lib.hid (And.intro hA1 hK1)
    clear hA1 hK1 ho1 hk1 c
    go_wp2_with fail
    refine Calls.mono cu ?_
    rintro e w2 ⟨rfl, v2, ho2, hk2⟩
    obtain ⟨hA2, hK2⟩ := HA1.out.1.step 3 (by decide) ho2 hk2
    clear ho2 hk2 cu
    go_wp2_with fail
    go_returns
    exact ⟨rfl, _, hA2, HA1.out.2.trans hK2⟩
set_option maxHeartbeats 1600000 in
theorem aroom (was : Bool) (w : World) (N a : Nat) (R W : Int) (V : Nat → Value) (L : Nat → List Int) (h : ArcAt w N a R W V L) (hl : ∀ i, i < 4 → (L i).length ≤ 100000) :
    Calls Try.prog 140 #[.pointer (some ⟨a, 0, none⟩), .bool was] w fun e w' => e = .returned (outV (sRoom W was L).2) ∧ ∃ V', ArcAt w' N a R W V' (sRoom W was L).1 ∧ ArcKept w w' N a V V' := by
  have cm := amany0 w N a R W V L h
  have c0 := amove02 w N a R W V L h hl
  have c1 := amove13 w N a R W V L h hl
  obtain ⟨d0, d1⟩ := h.rooms
  unfold sRoom
  have hm : (L 0).length ≤ 100000 := hl 0 (by decide)
  generalize (L 0).length = m at *
  unfold outV at *
  by_cases hc : 0 < m ∧ (W < m ∨ (m : Int) = W ∧ was = true)
  · rw [if_pos hc]
    obtain ⟨g1, g2⟩ := hc
    have g1' : (0 : Int) < m := by omega
    clear h hl c1
    by_cases g3 : W < m
    · have g3' : decide (W < (m : Int)) = true := decide_eq_true g3
      clear g2
      go_enter Try.func140, Try.ntmps140
      go_wp2_with fail
      refine Calls.mono cm ?_
      rintro e w1 ⟨rfl, rfl⟩
      go_wp2_with fail
      refine Calls.mono c0 ?_
      rintro e w2 ⟨rfl, h2⟩
      go_wp2_with fail
      go_returns
      exact ⟨rfl, h2⟩
    · obtain ⟨g4, g5⟩ := g2.resolve_left g3
      subst g4
      subst g5
      clear g3 g2
      go_enter Try.func140, Try.ntmps140
      go_wp2_with fail
      refine Calls.mono cm ?_
      rintro e w1 ⟨rfl, rfl⟩
      go_wp2_with fail
      refine Calls.mono c0 ?_
      rintro e w2 ⟨rfl, h2⟩
      go_wp2_with fail
      go_returns
      exact ⟨rfl, h2⟩
  · rw [if_neg hc]
    clear h hl c0
    by_cases g1 : 0 < m
    · have g1' : (0 : Int) < m := by omega
      have g2 : ¬ W < m := fun q => hc ⟨g1, .inl q⟩
      by_cases g3 : (m : Int) = W
      · have g4 : was = false := by
          cases was
          · rfl
          · exact absurd ⟨g1, .inr ⟨g3, rfl⟩⟩ hc
        subst g3
        subst g4
        clear hc
        go_enter Try.func140, Try.ntmps140
        go_wp2_with fail
        refine Calls.mono cm ?_
        rintro e w1 ⟨rfl, rfl⟩
        go_wp2_with fail
        refine Calls.mono c1 ?_
        rintro e w2 ⟨rfl, h2⟩
        go_wp2_with fail
        go_returns
        exact ⟨rfl, h2⟩
      · clear hc
        go_enter Try.func140, Try.ntmps140
        go_wp2_with fail
        refine Calls.mono cm ?_
        rintro e w1 ⟨rfl, rfl⟩
        go_wp2_with fail
        refine Calls.mono c1 ?_
        rintro e w2 ⟨rfl, h2⟩
        go_wp2_with fail
        go_returns
        exact ⟨rfl, h2⟩
    · obtain rfl : m = 0 := by omega
      clear hc
      go_enter Try.func140, Try.ntmps140
      go_wp2_with fail
      refine Calls.mono cm ?_
      rintro e w1 ⟨rfl, rfl⟩
      go_wp2_with fail
      refine Calls.mono c1 ?_
      rintro e w2 ⟨rfl, h2⟩
      go_wp2_with fail
      go_returns
      exact ⟨rfl, h2⟩
end Go.Proofs.Ytadejhlljdcocaa
