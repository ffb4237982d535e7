/-
  tarnref09: Lay, Drop: with a block's item; without it.
-/
import Derived.Test.YtnjklhmnkjejfaaLay
namespace Go.Proofs.Ytnjklhmnkjejfaa
open Go.RowKit
set_option linter.unusedVariables false
set_option linter.unusedSimpArgs false

def outL (l : List HI) (k : Nat) (x : HI) (j : Nat) : List HI := if j ≤ k then l.take j else l.take k ++ x :: ((l.take j).drop k).filter (fun h => h.b != x.b)
theorem outL_lt {l : List HI} {k j : Nat} {x h : HI} (hj : l[j]? = some h) (hk : j < k) : outL l k x (j + 1) = outL l k x j ++ [h] := by
  unfold outL
  rw [if_pos (by omega), if_pos (by omega), take_next hj]
theorem drop_next {l : List HI} {k j : Nat} {h : HI} (hj : l[j]? = some h) (hk : k ≤ j) : (l.take (j + 1)).drop k = (l.take j).drop k ++ [h] := by
  have := (List.getElem?_eq_some_iff.1 hj).1
  rw [take_next hj, List.drop_append_of_le_length (by rw [List.length_take]; omega)]
theorem outL_eq {l : List HI} {k : Nat} {x h : HI} (hj : l[k]? = some h) : outL l k x (k + 1) = outL l k x k ++ [x] ++ [h].filter (fun h => h.b != x.b) := by
  unfold outL
  have := (List.getElem?_eq_some_iff.1 hj).1
  rw [if_neg (by omega), if_pos (Nat.le_refl _), drop_next hj (Nat.le_refl _), List.drop_eq_nil_of_le (by rw [List.length_take]; omega)]
  simp
theorem outL_gt {l : List HI} {k j : Nat} {x h : HI} (hj : l[j]? = some h) (hk : k < j) : outL l k x (j + 1) = outL l k x j ++ [h].filter (fun h => h.b != x.b) := by
  unfold outL
  rw [if_neg (by omega), if_neg (by omega), drop_next hj (by omega), List.filter_append]
  simp
theorem outL_len (l : List HI) (k : Nat) (x : HI) (j : Nat) : (outL l k x j).length ≤ j + 1 := by
  unfold outL
  split
  · rw [List.length_take]; omega
  · have h1 := List.length_filter_le (fun h : HI => h.b != x.b) ((l.take j).drop k)
    simp only [List.length_append, List.length_cons, List.length_take, List.length_drop] at h1 ⊢
    omega
theorem filt_none {B : List HI} {b : Int} (h : ∀ y ∈ B, b < y.b) : B.filter (fun h => h.b != b) = B := by
  rw [List.filter_eq_self]
  intro y hy
  have := h y hy
  simp; omega
/-- where a block's place is, its item elder than x if there is one: what is laid -/
theorem out_all {l : List HI} {x : HI} (h : Srt l) (hl : laysL l x = true) : layL l x = l.take (atL l x.b) ++ x :: (l.drop (atL l x.b)).filter (fun h => h.b != x.b) ∧ atL l x.b ≤ l.length ∧ (∀ y ∈ l.take (atL l x.b), y.b < x.b) ∧ (∀ y ∈ l.drop (atL l x.b), ¬ y.b < x.b) := by
  cases split_of l x.b h.pw with
  | no A B e hA hB =>
    subst e
    rw [at_no hA hB, layL_no hA hB, List.take_left, List.drop_left, filt_none hB]
    exact ⟨rfl, by simp, hA, fun y hy => by have := hB y hy; omega⟩
  | yes A y B e hy hA hB =>
    subst e
    rw [laysL_yes hA hy] at hl
    have hn : y.v < x.v := of_decide_eq_true hl
    rw [at_yes hA hy, layL_yes hA hy, List.take_left, List.drop_left, if_pos hn, List.filter_cons, if_neg (by simp [hy]), filt_none hB]
    exact ⟨rfl, by simp, hA, fun z hz => by rcases List.mem_cons.1 hz with rfl | hz; omega; have := hB z hz; omega⟩
theorem lay_not {l : List HI} {x : HI} (h : Srt l) (hl : laysL l x = false) : layL l x = l ∧ ∃ y, getL l x.b = some y ∧ ¬ y.v < x.v := by
  cases split_of l x.b h.pw with
  | no A B e hA hB =>
    subst e
    rw [laysL_no hA hB] at hl; cases hl
  | yes A y B e hy hA hB =>
    subst e
    rw [laysL_yes hA hy] at hl
    have hn := of_decide_eq_false hl
    rw [layL_yes hA hy, if_neg hn, getL_yes hA hy]
    exact ⟨rfl, y, rfl, hn⟩
theorem lays_get {l : List HI} {x : HI} (hl : laysL l x = true) : ∀ y, getL l x.b = some y → y.v < x.v := by
  intro y hy
  rw [laysL, hy] at hl
  exact of_decide_eq_true hl
/-- what the document's Lay leaves: nothing laid, the list itself; or a new one -/
def RLay (w : World) (v : Value) (m : Bool) (l : List HI) (x : HI) (e : Ending) (w' : World) : Prop :=
  ∃ v', e = .returned (.tuple #[v', .bool (putsL m l x)]) ∧ SR w' v' 3 (putL m l x).length (hCells (putL m l x)) ∧ NewRow w v v' ∧ (∀ k, v'.ownBlock = some k → v.ownBlock = some k ∨ k < w'.heap.size) ∧ Below w.heap.size w w'
theorem rlay_same {w w' : World} {v : Value} {m : Bool} {l : List HI} {x : HI} (hv : SR w v 3 l.length (hCells l)) (hb : Below w.heap.size w w') (h1 : putsL m l x = false) (h2 : putL m l x = l) : RLay w v m l x (.returned (.tuple #[v, .bool false])) w' := by
  refine ⟨v, by rw [h1], ?_, .inl rfl, fun k e => .inl e, hb⟩
  rw [h2]
  exact hv.below hb
set_option maxHeartbeats 1600000 in
theorem rlay_out (l : List HI) (x : HI) (m : Bool) (w : World) (v : Value) (hv : SR w v 3 l.length (hCells l)) (hx : x.b < 0 ∨ 64 ≤ x.b) :
    Calls Try.prog 38 #[v, .int .i64 x.b, .agg (itemA x.v x.d)] w (RLay w v m l x) := by
  have hib : inB x.b = false := by
    unfold inB
    rw [Bool.and_eq_false_iff]
    simp only [decide_eq_false_iff_not]
    omega
  have HR := fun w' hb => rlay_same (w' := w') hv hb (m := m) (x := x) (by simp [putsL, hib]) (by simp [putL, hib])
  obtain ⟨a, cap, rfl, hlc, hcm⟩ := hv.form
  clear hv
  unfold itemA
  by_cases h0 : x.b < 0
  · go_enter Try.func38, Try.ntmps38
    go_wp2_with fail
    go_returns
    exact HR _ (by go_grown)
  · have h1 : 64 ≤ x.b := by omega
    clear hx
    go_enter Try.func38, Try.ntmps38
    go_wp2_with fail
    go_returns
    exact HR _ (by go_grown)
theorem rlay_bad (l : List HI) (x : HI) (w : World) (v : Value) (hv : SR w v 3 l.length (hCells l)) (n0 : ¬ x.b < 0) (n1 : ¬ 64 ≤ x.b) (hm : MayT false x.v x.d) :
    Calls Try.prog 38 #[v, .int .i64 x.b, .agg (itemA x.v x.d)] w (RLay w v false l x) := by
  have HR := fun w' hb => rlay_same (w' := w') hv hb (m := false) (x := x) (by simp [putsL]) (by simp [putL])
  have hb0 := (Below.refl w.heap.size w).alloc (Nat.le_refl _) (.cells #[.int .u64 x.v, .string x.d] 24)
  have cm := hm.2
  obtain ⟨a, cap, rfl, hlc, hcm⟩ := hv.form
  clear hv hm
  unfold itemA at *
  go_enter Try.func38, Try.ntmps38
  go_wp2_with fail
  refine Calls.mono (cm _) ?_
  rintro e w1 ⟨rfl, hb1⟩
  have HB := Lib.hid (hb0.trans (hb1.mono hb0.size))
  clear hb1 hb0
  go_wp2_with fail
  go_returns
  exact HR _ HB.out
set_option maxHeartbeats 1600000 in
set_option maxRecDepth 100000 in
theorem rlay_old (l : List HI) (x y : HI) (w : World) (v : Value) (hs : Srt l) (hv : SR w v 3 l.length (hCells l)) (n0 : ¬ x.b < 0) (n1 : ¬ 64 ≤ x.b) (hm : MayT true x.v x.d) (hy : getL l x.b = some y) (hn : ¬ y.v < x.v) :
    Calls Try.prog 38 #[v, .int .i64 x.b, .agg (itemA x.v x.d)] w (RLay w v true l x) := by
  have hls : laysL l x = false := by rw [laysL, hy]; exact decide_eq_false hn
  have HR := fun w' hb => rlay_same (w' := w') hv hb (m := true) (x := x) (by simp [putsL, hls]) (by have := (lay_not hs hls).1; unfold putL; split; exact this; rfl)
  have hb0 := (Below.refl w.heap.size w).alloc (Nat.le_refl _) (.cells #[.int .u64 x.v, .string x.d] 24)
  have hz := heap_alloc_self w (.cells #[.int .u64 x.v, .string x.d] 24)
  have cm := hm.2
  have cg := fun w' hb => rget l x.b w' v (hv.below (w' := w') hb)
  rw [hy, show gv (some y) = y.v from rfl, show gd (some y) = y.d from rfl, show (some y).isSome = true from rfl] at cg
  obtain ⟨a, cap, rfl, hlc, hcm⟩ := hv.form
  clear hv hm hy hls
  unfold itemA at *
  go_enter Try.func38, Try.ntmps38
  go_wp2_with fail
  refine Calls.mono (cm _) ?_
  rintro e w1 ⟨rfl, hb1⟩
  have hb2 := hb0.trans (hb1.mono hb0.size)
  have yy := below_at hb1 (lt_heap hz) hz
  go_wp2_with fail
  refine Calls.mono (cg _ hb2) ?_
  rintro e w3 ⟨rfl, hb3⟩
  have y3 := below_at hb3 (lt_heap yy) yy
  have hb4 := hb2.trans (hb3.mono hb2.size)
  have hb5 := hb4.alloc hb4.size (.cells #[.int .u64 y.v, .string y.d] 24)
  have hq := heap_alloc_self w3 (.cells #[.int .u64 y.v, .string y.d] 24)
  have y4 := alloc_far (o := .cells #[.int .u64 y.v, .string y.d] 24) y3
  clear hb0 hb1 hb2 hb3 hb4 yy y3 hz cm cg
  go_upto_region 4 with fail
  generalize w3.alloc (.cells #[.int .u64 y.v, .string y.d] 24) = w5 at *
  have HB := Lib.hid hb5
  have d0 : w5.cell? ⟨w3.heap.size, 0, none⟩ = some (.int .u64 y.v) := by simp [World.cell?, hq]
  have d1 : w5.cell? ⟨w.heap.size, 0, none⟩ = some (.int .u64 x.v) := by simp [World.cell?, y4]
  clear hb5 hq y4
  go_wp2_with fail
  go_returns
  exact HR _ HB.out
theorem good_lit (x : HI) (w : World) : SR (w.alloc (.cells #[.int .i64 x.b, .int .u64 x.v, .string x.d] 45)) (.slice (some ⟨w.heap.size, 0, none⟩) 1 1) 3 1 (hCells [x]) := SR.lit w 45 #[.int .i64 x.b, .int .u64 x.v, .string x.d] 3 1 (by decide) rfl
theorem owns_app {w' : World} {N : Nat} {v' : Value} {L : List HI} {x : HI} (h : w'.ownsRow N 45 3 v' (L.length + 1) (hCells L ++ hCells [x])) : w'.ownsRow N 45 3 v' (L ++ [x]).length (hCells (L ++ [x])) := by
  rw [hCells_append, List.length_append]
  exact h
end Go.Proofs.Ytnjklhmnkjejfaa
