/-
  Configurations: all nodes of one; ConfNodes' walk.
-/
import Derived.Test.YtlabjemjhokcaaaConfD
namespace Go.Proofs.Ytlabjemjhokcaaa
open Go.RowKit
set_option linter.unusedVariables false

def pickK (f : Nat → Bool) : Nat → List Int | 0 => [] | k + 1 => pickK f k ++ (if f k then [(k : Int)] else [])
theorem pickK_le (f : Nat → Bool) (k : Nat) : (pickK f k).length ≤ k := by
  induction k with
  | zero => simp [pickK]
  | succ k ih => simp only [pickK, List.length_append]; split <;> simp <;> omega
theorem pickK_more (f : Nat → Bool) (x j : Nat) : ∃ t, pickK f (x + j) = pickK f x ++ t := by
  induction j with
  | zero => exact ⟨[], by simp⟩
  | succ j ih =>
    obtain ⟨t, ht⟩ := ih
    refine ⟨t ++ (if f (x + j) then [((x + j : Nat) : Int)] else []), ?_⟩
    rw [← Nat.add_assoc, pickK, ht, List.append_assoc]
theorem pickK_at (f : Nat → Bool) (x : Nat) (hx : x < 5) (hf : f x = true) : (pickK f x).length < (pickK f 5).length ∧ (pickK f 5).getD (pickK f x).length 0 = x := by
  obtain ⟨t, ht⟩ := pickK_more f (x + 1) (5 - (x + 1))
  rw [show x + 1 + (5 - (x + 1)) = 5 by omega] at ht
  have e : pickK f (x + 1) = pickK f x ++ [(x : Int)] := by simp [pickK, hf]
  rw [e] at ht
  rw [ht]
  constructor
  · simp
  · simp [List.getD]
def inF (M C : List Int) (j : Nat) : Bool := decide ((j : Int) ∈ M) || decide ((j : Int) ∈ C)
def AllRel (f : Nat → Bool) (A : Array Value) (k : Nat) (v : Value) (w wr : World) : Prop :=
  wr.heap[w.heap.size]? = some (.cells A 24) ∧ wr.ownsRow (w.heap.size + 1) 3 1 v (pickK f k).length (nCells (pickK f k)) ∧ Below w.heap.size w wr
theorem all_step {f : Nat → Bool} {A : Array Value} {k : Nat} {v v' : Value} {w wr w' : World} {o : Obj} (hr : AllRel f A k v w wr) (hf : f k = true) (h : w'.ownsRow (w.heap.size + 1) 3 1 v' ((pickK f k).length + 1) (nCells (pickK f k) ++ [.int .i64 (k : Int)])) (hg : (wr.alloc o).grownBy w' v.ownBlock) : AllRel f A (k + 1) v' w w' := by
  have hb := hr.2.2.size
  have hl := lt_heap hr.1
  have e : pickK f (k + 1) = pickK f k ++ [(k : Int)] := by simp [pickK, hf]
  refine ⟨(hg.block w.heap.size (by simp; omega) (fun e => by have := (hr.2.1.lt _ e.symm).1; omega)).trans (alloc_far hr.1), ?_, below_app (hr.2.2.alloc hb o) hg (hr.2.1.alloc o) (by omega) (by simp; omega)⟩
  rw [e, List.length_append, ← nCells_append]
  exact h
theorem all_skip {f : Nat → Bool} {A : Array Value} {k : Nat} {v : Value} {w wr : World} (hr : AllRel f A k v w wr) (hf : f k = false) : AllRel f A (k + 1) v w wr := by
  have e : pickK f (k + 1) = pickK f k := by simp [pickK, hf]
  unfold AllRel
  rw [e]
  exact hr
theorem all_next {f : Nat → Bool} {A : Array Value} {k : Nat} {v : Value} {w wr wx : World} (hr : AllRel f A k v w wr) (hb : Below wr.heap.size wr wx) : AllRel f A k v w wx :=
  ⟨below_at hb (lt_heap hr.1) hr.1, owns_below hr.2.1 hb, hr.2.2.trans (hb.mono hr.2.2.size)⟩
def ListPost (l : List Int) (w : World) (e : Ending) (w' : World) : Prop := ∃ v, e = .returned v ∧ SR w' v 1 l.length (nCells l) ∧ Below w.heap.size w w'
set_option maxHeartbeats 3200000 in
set_option maxRecDepth 20000 in
theorem all_any (e b k : Int) (m c : Value) (M C : List Int) (w : World) (hm : SR w m 1 M.length (nCells M)) (hc : SR w c 1 C.length (nCells C)) :
    Calls Try.prog 16 #[.agg (confA e b k m c)] w (ListPost (pickK (inF M C) 5) w) := by
  obtain ⟨i0, hi, hz0, hz1, hz2⟩ := info_parts info_i64
  obtain ⟨ma, mc, rfl, hmc, hmm⟩ := hm.form
  obtain ⟨ca, cc, rfl, hcc, hcm⟩ := hc.form
  have HM := Lib.hid hm
  have HC := Lib.hid hc
  obtain ⟨f, hf⟩ : ∃ f, f = inF M C := ⟨_, rfl⟩
  rw [← hf]
  have HF := Lib.hid hf
  unfold confA
  clear hm hc hf
  go_enter Try.func16, Try.ntmps16
  go_wp2_with fail
  go_loopw [3, 5] (fun v i wr => ∃ j : Nat, j ≤ 5 ∧ i = .int .i64 j ∧ AllRel f #[.int .i64 e, .int .i64 b, .int .i64 k, .slice ma M.length mc, .slice ca C.length cc] j v w wr) (fun _ i _ => 5 - (intOf i).toNat)
  case atStart => exact ⟨0, by omega, rfl, heap_alloc_self _ _, World.ownsRow_nil _ _ _ _, by go_grown⟩
  case round =>
    obtain ⟨j, hj, rfl, hrel⟩ := hrel
    have HR := Lib.hid hrel
    have hx := hrel.1
    have hjl := pickK_le f j
    have hsz := hrel.2.2.size
    have hl := lt_heap hx
    by_cases hlt : j < 5
    · have c0 : wr.cell? ⟨w.heap.size, 0, none⟩ = some (.int .i64 e) := by simp [World.cell?, hx]
      have c1 : wr.cell? ⟨w.heap.size, 1, none⟩ = some (.int .i64 b) := by simp [World.cell?, hx]
      have c2 : wr.cell? ⟨w.heap.size, 2, none⟩ = some (.int .i64 k) := by simp [World.cell?, hx]
      have c3 : wr.cell? ⟨w.heap.size, 3, none⟩ = some (.slice ma M.length mc) := by simp [World.cell?, hx]
      have c4 : wr.cell? ⟨w.heap.size, 4, none⟩ = some (.slice ca C.length cc) := by simp [World.cell?, hx]
      have cm := mirrors_any e b k _ _ M j wr (HM.out.below hrel.2.2) ⟨ca, C.length, cc, rfl⟩
      unfold confA at cm
      have hfj : f j = (decide ((j : Int) ∈ M) || decide ((j : Int) ∈ C)) := by rw [HF.out]; rfl
      obtain ⟨p, hp⟩ : ∃ p, p = decide ((j : Int) ∈ M) := ⟨_, rfl⟩
      rw [← hp] at cm hfj
      have HFJ := Lib.hid hfj
      clear hrel hx hfj hp
      cases p
      · go_wp2_with fail
        refine Calls.mono cm ?_
        rintro ev w1 ⟨rfl, hb1⟩
        have R1 := all_next HR.out hb1
        have x1 := R1.1
        have d0 : w1.cell? ⟨w.heap.size, 0, none⟩ = some (.int .i64 e) := by simp [World.cell?, x1]
        have d1 : w1.cell? ⟨w.heap.size, 1, none⟩ = some (.int .i64 b) := by simp [World.cell?, x1]
        have d2 : w1.cell? ⟨w.heap.size, 2, none⟩ = some (.int .i64 k) := by simp [World.cell?, x1]
        have d3 : w1.cell? ⟨w.heap.size, 3, none⟩ = some (.slice ma M.length mc) := by simp [World.cell?, x1]
        have d4 : w1.cell? ⟨w.heap.size, 4, none⟩ = some (.slice ca C.length cc) := by simp [World.cell?, x1]
        have ch := chains_any e b k (.slice ma M.length mc) _ C j w1 ⟨ma, M.length, mc, rfl⟩ (HC.out.below R1.2.2)
        unfold confA at ch
        have HR1 := Lib.hid R1
        obtain ⟨q, hq⟩ : ∃ p, p = decide ((j : Int) ∈ C) := ⟨_, rfl⟩
        rw [← hq] at ch HFJ
        clear hb1 R1 x1 c0 c1 c2 c3 c4 cm HR hq
        cases q
        · go_wp2_with fail
          refine Calls.mono ch ?_
          rintro ev w2 ⟨rfl, hb2⟩
          have HR2 := Lib.hid (all_skip (all_next HR1.out hb2) HFJ.out)
          clear hb2
          go_wp2_with fail
          go_roundw
          case rel => exact ⟨j + 1, by omega, by go_num, HR2.out⟩
          case measure => simp [intOf]; omega
        · go_wp2_with fail
          refine Calls.mono ch ?_
          rintro ev w2 ⟨rfl, hb2⟩
          have HR2 := Lib.hid (all_next HR1.out hb2)
          have hs2 := HR2.out.2.2.size
          have hl2 := lt_heap HR2.out.1
          clear hb2 HR1
          go_wp2_with (at_builtin; refine wp_app Try.underlying22 hi hz0 hz1 hz2 rfl (by decide) rfl (.tmp 16) (.tmp 18) rfl (w.heap.size + 1) _ _ _ rfl (HR2.out.2.1.alloc _) _ 1 [.int .i64 (j : Int)] rfl (SR.lit _ _ _ 1 1 (by decide) rfl) ?c1 ?c2 ?c3 ?c4 ?_)
          case c1 => intro y hy; simp at hy; subst hy; rfl
          case c2 => unfold maxLen; omega
          case c3 => omega
          case c4 => simp; omega
          intro v' w3 hown hgr
          have HO := Lib.hid (all_step HR2.out HFJ.out hown hgr)
          clear hown hgr
          go_wp2_with fail
          go_roundw
          case rel => exact ⟨j + 1, by omega, by go_num, HO.out⟩
          case measure => simp [intOf]; omega
      · go_wp2_with fail
        refine Calls.mono cm ?_
        rintro ev w2 ⟨rfl, hb2⟩
        have HR2 := Lib.hid (all_next HR.out hb2)
        have hs2 := HR2.out.2.2.size
        have hl2 := lt_heap HR2.out.1
        clear hb2 HR c0 c1 c2 c3 c4
        go_wp2_with (at_builtin; refine wp_app Try.underlying22 hi hz0 hz1 hz2 rfl (by decide) rfl (.tmp 16) (.tmp 18) rfl (w.heap.size + 1) _ _ _ rfl (HR2.out.2.1.alloc _) _ 1 [.int .i64 (j : Int)] rfl (SR.lit _ _ _ 1 1 (by decide) rfl) ?c1 ?c2 ?c3 ?c4 ?_)
        case c1 => intro y hy; simp at hy; subst hy; rfl
        case c2 => unfold maxLen; omega
        case c3 => omega
        case c4 => simp; omega
        intro v' w3 hown hgr
        have HO := Lib.hid (all_step HR2.out (by rw [HFJ.out]; rfl) hown hgr)
        clear hown hgr
        go_wp2_with fail
        go_roundw
        case rel => exact ⟨j + 1, by omega, by go_num, HO.out⟩
        case measure => simp [intOf]; omega
    · obtain rfl : j = 5 := by omega
      clear hrel hx hlt
      go_wp2_with fail
      go_ret
      exact ⟨_, rfl, SR.owns HR.out.2.1, HR.out.2.2⟩
end Go.Proofs.Ytlabjemjhokcaaa
