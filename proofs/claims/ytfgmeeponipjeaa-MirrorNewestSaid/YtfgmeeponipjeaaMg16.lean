/-
  Several texts, laid together.
-/
import Derived.Test.YtfgmeeponipjeaaMg15
/-
  items: the methods of a set, whatever comes; of none; the waking call of layer 9; ItemsNone.
-/


namespace Go.Proofs.Ytfgmeeponipjeaa
open Go.RowKit
set_option linter.unusedVariables false
set_option linter.unusedSimpArgs false

theorem alloc_farS {w : World} {g : Nat} {ob o : Obj} (h : w.heap[g]? = some ob) : (w.alloc o).heap[g]? = some ob := (Below.heap_alloc w o g (lt_heap h)).trans h
def inB (b : Int) : Bool := decide (0 ≤ b) && decide (b < 64)
def putL (m : Bool) (l : List HI) (x : HI) : List HI := if (m && inB x.b) = true then layL l x else l
def putsL (m : Bool) (l : List HI) (x : HI) : Bool := m && inB x.b && laysL l x
def gv (o : Option HI) : Int := (o.map (·.v)).getD 0
def gd (o : Option HI) : ByteArray := (o.map (·.d)).getD ⟨#[]⟩
theorem sput (w : World) (N p : Nat) (v : Value) (l : List HI) (h : SetAt w N p v l) (x : HI) (m : Bool) (hm : MayT m x.v x.d) (hv : (Lit.int .u64 x.v).wf = true) (hd : x.d.size ≤ 40) :
    Calls Try.prog 51 #[.pointer (some ⟨p, 0, none⟩), .int .i64 x.b, .agg (itemA x.v x.d)] w fun e w' => e = .returned (.bool (putsL m l x)) ∧ ∃ v', SetAt w' N p v' (putL m l x) ∧ OKept w w' N p v v' := by
  have hNw : N ≤ w.heap.size := Nat.le_trans h.1 (Nat.le_of_lt (lt_heap h.2.1))
  have stay : ∀ e w', e = Ending.returned (.bool false) ∧ Below w.heap.size w w' → (m && inB x.b) = false → e = .returned (.bool (putsL m l x)) ∧ ∃ v', SetAt w' N p v' (putL m l x) ∧ OKept w w' N p v v' := by
    rintro e w' ⟨rfl, hb⟩ hf
    refine ⟨by rw [putsL, hf]; rfl, v, ?_, OKept.of_below hb hNw⟩
    rw [putL, if_neg (by rw [hf]; decide)]
    exact h.below hb
  by_cases hin : 0 ≤ x.b ∧ x.b < 64
  · obtain ⟨h0, h1⟩ := hin
    have hib : inB x.b = true := by simp [inB, h0, h1]
    cases m
    · exact (sput_bad w p x.b x.v x.d h0 h1 hm).mono fun e w' q => stay e w' q (by simp)
    · have hg : Good x := ⟨h0, h1, hv, hd⟩
      have hpl : putL true l x = layL l x := by simp [putL, hib]
      have hps : putsL true l x = laysL l x := by simp [putsL, hib]
      rw [hpl, hps]
      cases split_of l x.b h.2.2.2.pw with
      | no A B e hA hB =>
        subst e
        rw [layL_no hA hB, laysL_no hA hB]
        exact sput_no w N p v A B x h hA hB hg hm
      | yes A y B e hy hA hB =>
        subst e
        rw [layL_yes hA hy, laysL_yes hA hy]
        by_cases hn : y.v < x.v
        · rw [if_pos hn, decide_eq_true hn]
          exact sput_new w N p v A B x y h hg hy hm hn
        · rw [if_neg hn, decide_eq_false hn]
          exact (sput_old w N p v A B x y h hg hy hm hn).mono fun e w' q => ⟨q.1, v, h.below q.2, OKept.of_below q.2 hNw⟩
  · have hib : inB x.b = false := by
      unfold inB
      rw [Bool.and_eq_false_iff]
      simp only [decide_eq_false_iff_not]
      omega
    exact (sput_out w p x.b x.v x.d (by omega)).mono fun e w' q => stay e w' q (by rw [hib]; simp)
theorem sget (w : World) (N p : Nat) (v : Value) (l : List HI) (h : SetAt w N p v l) (b : Int) :
    Calls Try.prog 53 #[.pointer (some ⟨p, 0, none⟩), .int .i64 b] w fun e w' => e = .returned (.tuple #[.agg (itemA (gv (getL l b)) (gd (getL l b))), .bool (getL l b).isSome]) ∧ Below w.heap.size w w' := by
  cases split_of l b h.2.2.2.pw with
  | no A B e hA hB =>
    have hg : getL l b = none := by rw [e]; exact getL_no hA hB
    rw [hg]
    exact sget_no w N p v l h b hg
  | yes A y B e hy hA hB =>
    subst e
    rw [getL_yes hA hy]
    subst hy
    exact sget_yes w N p v A B y h
theorem sdrop (w : World) (N p : Nat) (v : Value) (l : List HI) (h : SetAt w N p v l) (b ver : Int) :
    Calls Try.prog 54 #[.pointer (some ⟨p, 0, none⟩), .int .i64 b, .int .u64 ver] w fun e w' => e = .returned (.bool (dropsL l b ver)) ∧ ∃ v', SetAt w' N p v' (dropL l b ver) ∧ OKept w w' N p v v' := by
  have hNw : N ≤ w.heap.size := Nat.le_trans h.1 (Nat.le_of_lt (lt_heap h.2.1))
  cases split_of l b h.2.2.2.pw with
  | no A B e hA hB =>
    have hg : getL l b = none := by rw [e]; exact getL_no hA hB
    have h1 : dropL l b ver = l := by rw [e]; exact dropL_no hA hB
    have h2 : dropsL l b ver = false := by rw [e]; exact dropsL_no hA hB
    rw [h1, h2]
    exact (sdrop_no w N p v l h b ver hg).mono fun e w' q => ⟨q.1, v, h.below q.2, OKept.of_below q.2 hNw⟩
  | yes A y B e hy hA hB =>
    subst e
    rw [dropL_yes hA hB hy, dropsL_yes hA hy]
    subst hy
    by_cases hn : y.v ≤ ver
    · rw [if_pos hn, decide_eq_true hn]
      exact sdrop_yes w N p v A B y h ver hn
    · rw [if_neg hn, decide_eq_false hn]
      exact (sdrop_new w N p v A B y h ver (by omega)).mono fun e w' q => ⟨q.1, v, h.below q.2, OKept.of_below q.2 hNw⟩

theorem snil_find (b : Int) (w : World) : Calls Try.prog 76 #[.pointer none, .int .i64 b] w fun e w' => e = .returned (.tuple #[.int .i64 0, .bool false]) ∧ w = w' := by
  go_enter Try.func76, Try.ntmps76
  go_wp2_with fail
  go_returns
  exact ⟨rfl, rfl⟩
theorem snil_drop (b ver : Int) (w : World) : Calls Try.prog 54 #[.pointer none, .int .i64 b, .int .u64 ver] w fun e w' => e = .returned (.bool false) ∧ w = w' := by
  go_enter Try.func54, Try.ntmps54
  go_wp2_with fail
  refine Calls.mono (snil_find b _) ?_
  rintro e w1 ⟨rfl, rfl⟩
  go_wp2_with fail
  go_ret
  exact ⟨rfl, rfl⟩
theorem snil_put (b x : Int) (d : ByteArray) (w : World) : Calls Try.prog 51 #[.pointer none, .int .i64 b, .agg (itemA x d)] w fun e w' => e = .returned (.bool false) ∧ Below w.heap.size w w' := by
  unfold itemA
  go_enter Try.func51, Try.ntmps51
  go_wp2_with fail
  go_ret
  exact ⟨rfl, by go_grown⟩
theorem snil_get (b : Int) (w : World) : Calls Try.prog 53 #[.pointer none, .int .i64 b] w fun e w' => e = .returned (.tuple #[.agg (itemA 0 ⟨#[]⟩), .bool false]) ∧ Below w.heap.size w w' := by
  have hb0 := (Below.refl w.heap.size w).alloc (Nat.le_refl _) (.cells #[.int .u64 0, .string ⟨#[]⟩] 54)
  have y := heap_alloc_self w (.cells #[.int .u64 0, .string ⟨#[]⟩] 54)
  go_enter Try.func53, Try.ntmps53
  go_wp2_with fail
  refine Calls.mono (snil_find b _) ?_
  rintro e w1 ⟨rfl, h1⟩
  rw [h1] at hb0 y
  have HB := Lib.hid hb0
  have f0 : w1.frozen? ⟨w.heap.size, 0, none⟩ = false := by simp [World.frozen?, y]
  have f1 : w1.frozen? ⟨w.heap.size, 1, none⟩ = false := by simp [World.frozen?, y]
  have d0 : w1.cell? ⟨w.heap.size, 0, none⟩ = some (.int .u64 0) := by simp [World.cell?, y]
  have d1 : w1.cell? ⟨w.heap.size, 1, none⟩ = some (.string ⟨#[]⟩) := by simp [World.cell?, y]
  clear hb0 h1
  go_wp2_with fail
  obtain ⟨s0, s1⟩ := item_over y 0 ⟨#[]⟩
  have FO := Lib.hid ((HB.out.setCell (p := ⟨w.heap.size, 0, none⟩) (Nat.le_refl _) (.int .u64 0)).setCell (p := ⟨w.heap.size, 1, none⟩) (Nat.le_refl _) (.string ⟨#[]⟩))
  generalize (w1.setCell ⟨w.heap.size, 0, none⟩ (.int .u64 0)).setCell ⟨w.heap.size, 1, none⟩ (.string ⟨#[]⟩) = w5 at *
  refine bodyPost_ret (v := .tuple #[.agg #[.int .u64 0, .string ⟨#[]⟩], .bool false]) (by simp [results, Try.results53, go_sem, s0, s1]) rfl ?_
  exact ⟨rfl, FO.out⟩
theorem mayT_none (v : Int) : MayT true v ⟨#[]⟩ := ⟨imay_none v, trivial⟩
end Go.Proofs.Ytfgmeeponipjeaa
/-
  tarnref09: Get, Same: what the document says of a block's item, and of two lists.
-/

namespace Go.Proofs.Ytfgmeeponipjeaa
open Go.RowKit
set_option linter.unusedVariables false
set_option linter.unusedSimpArgs false

theorem get_at {l : List HI} {b : Int} {j : Nat} {x : HI} (h : ∀ y ∈ l.take j, y.b ≠ b) (hx : l[j]? = some x) (hb : x.b = b) : getL l b = some x := by
  have hj := (List.getElem?_eq_some_iff.1 hx).1
  have e : l = l.take j ++ x :: l.drop (j + 1) := by
    rw [List.getElem?_eq_getElem hj] at hx
    have := Option.some.inj hx
    rw [← this, ← List.drop_eq_getElem_cons hj, List.take_append_drop]
  rw [e]
  unfold getL
  rw [List.find?_append, List.find?_eq_none.2 (fun y hy => by simpa using h y hy)]
  simp [hb]
theorem get_none {l : List HI} {b : Int} (h : ∀ y ∈ l, y.b ≠ b) : getL l b = none := by
  unfold getL
  rw [List.find?_eq_none]
  intro y hy
  simpa using h y hy
theorem take_next {l : List HI} {j : Nat} {x : HI} (hx : l[j]? = some x) : l.take (j + 1) = l.take j ++ [x] := by
  have hj := (List.getElem?_eq_some_iff.1 hx).1
  rw [List.getElem?_eq_getElem hj] at hx
  rw [List.take_succ_eq_append_getElem hj, Option.some.inj hx]
theorem heldkey : Try.prog.keyTypeAt 5 131 = true := by kernel_rfl
theorem heldguard : Try.prog.eqGuardType Try.prog.depth 131 = false := by kernel_rfl
theorem held_formed (b x : Int) (s : ByteArray) : (Value.agg #[.int .i64 b, .int .u64 x, .string s]).formed Try.prog 131 = true := by kernel_rfl
theorem held_lits (b x : Int) (s : ByteArray) (hb : (Lit.int .i64 b).wf = true) (hx : (Lit.int .u64 x).wf = true) (hs : s.size ≤ maxLen) : Try.prog.keyLits 5 131 [.int .i64 b, .int .u64 x, .string s] = some [.int .i64 b, .int .u64 x, .string s.data.toList] := by
  have c0 : Try.prog.cellsOf 131 = 3 := by kernel_rfl
  have c1 : Try.prog.cellsOf 54 = 2 := by kernel_rfl
  have c2 : Try.prog.cellsOf 51 = 1 := by kernel_rfl
  have c3 : Try.prog.cellsOf 3 = 1 := by kernel_rfl
  have c4 : Try.prog.cellsOf 9 = 1 := by kernel_rfl
  have hi := item_lits x s hx hs
  have hn : Try.prog.keyLits 4 3 [.int .i64 b] = some [.int .i64 b] := by simp [Program.keyLits, Try.underlying3, hb]
  unfold Program.keyLits
  simp [Try.underlying131, c0, c1, c3, hi, hn]
theorem held_neq (h : HI) (w : World) (hb : (Lit.int .i64 h.b).wf = true) (hx : (Lit.int .u64 h.v).wf = true) (hs : h.d.size ≤ maxLen) :
    (binOp .neq 131 (.agg #[.int .i64 h.b, .int .u64 h.v, .string h.d]) (.agg #[.int .i64 h.b, .int .u64 h.v, .string h.d])).run Try.prog w = .ok (.bool false) w :=
  (eq_deep (m := 5) (D := 5) (D' := 5) heldkey (by decide) (held_formed _ _ _) (held_formed _ _ _) (held_lits _ _ _ hb hx hs) (held_lits _ _ _ hb hx hs) true (by simp) w).2
theorem good_wf {h : HI} (g : Good h) : (Lit.int .i64 h.b).wf = true ∧ (Lit.int .u64 h.v).wf = true ∧ h.d.size ≤ maxLen := by
  obtain ⟨h0, h1, h2, h3⟩ := g
  exact ⟨wf_of (by omega), h2, by unfold maxLen; omega⟩
end Go.Proofs.Ytfgmeeponipjeaa
/-
  tarnref09: Lay, Drop: with a block's item; without it.
-/

namespace Go.Proofs.Ytfgmeeponipjeaa
open Go.RowKit
set_option linter.unusedVariables false
set_option linter.unusedSimpArgs false

def outL (l : List HI) (k : Nat) (x : HI) (j : Nat) : List HI := if j ≤ k then l.take j else l.take k ++ x :: ((l.take j).drop k).filter (fun h => h.b != x.b)
theorem outL_lt {l : List HI} {k j : Nat} {x h : HI} (hj : l[j]? = some h) (hk : j < k) : outL l k x (j + 1) = outL l k x j ++ [h] := by
  unfold outL
  rw [if_pos (by omega), if_pos (by omega), take_next hj]
theorem drop_next {l : List HI} {k j : Nat} {h : HI} (hj : l[j]? = some h) (hk : k ≤ j) : (l.take (j + 1)).drop k = (l.take j).drop k ++ [h] := by
  have := (List.getElem?_eq_some_iff.1 hj).1
  rw [take_next hj, List.drop_append_of_le_length (by rw [List.length_take]; omega)]
theorem outL_eq {l : List HI} {k : Nat} {x h : HI} (hj : l[k]? = some h) : outL l k x (k + 1) = outL l k x k ++ [x] ++ [h].filter (fun h => h.b != x.b) := by
  unfold outL
  have := (List.getElem?_eq_some_iff.1 hj).1
  rw [if_neg (by omega), if_pos (Nat.le_refl _), drop_next hj (Nat.le_refl _), List.drop_eq_nil_of_le (by rw [List.length_take]; omega)]
  simp
theorem outL_gt {l : List HI} {k j : Nat} {x h : HI} (hj : l[j]? = some h) (hk : k < j) : outL l k x (j + 1) = outL l k x j ++ [h].filter (fun h => h.b != x.b) := by
  unfold outL
  rw [if_neg (by omega), if_neg (by omega), drop_next hj (by omega), List.filter_append]
  simp
theorem outL_len (l : List HI) (k : Nat) (x : HI) (j : Nat) : (outL l k x j).length ≤ j + 1 := by
  unfold outL
  split
  · rw [List.length_take]; omega
  · have h1 := List.length_filter_le (fun h : HI => h.b != x.b) ((l.take j).drop k)
    simp only [List.length_append, List.length_cons, List.length_take, List.length_drop] at h1 ⊢
    omega
theorem filt_none {B : List HI} {b : Int} (h : ∀ y ∈ B, b < y.b) : B.filter (fun h => h.b != b) = B := by
  rw [List.filter_eq_self]
  intro y hy
  have := h y hy
  simp; omega
/-- where a block's place is, its item elder than x if there is one: what is laid -/
theorem out_all {l : List HI} {x : HI} (h : Srt l) (hl : laysL l x = true) : layL l x = l.take (atL l x.b) ++ x :: (l.drop (atL l x.b)).filter (fun h => h.b != x.b) ∧ atL l x.b ≤ l.length ∧ (∀ y ∈ l.take (atL l x.b), y.b < x.b) ∧ (∀ y ∈ l.drop (atL l x.b), ¬ y.b < x.b) := by
  cases split_of l x.b h.pw with
  | no A B e hA hB =>
    subst e
    rw [at_no hA hB, layL_no hA hB, List.take_left, List.drop_left, filt_none hB]
    exact ⟨rfl, by simp, hA, fun y hy => by have := hB y hy; omega⟩
  | yes A y B e hy hA hB =>
    subst e
    rw [laysL_yes hA hy] at hl
    have hn : y.v < x.v := of_decide_eq_true hl
    rw [at_yes hA hy, layL_yes hA hy, List.take_left, List.drop_left, if_pos hn, List.filter_cons, if_neg (by simp [hy]), filt_none hB]
    exact ⟨rfl, by simp, hA, fun z hz => by rcases List.mem_cons.1 hz with rfl | hz; omega; have := hB z hz; omega⟩
theorem lay_not {l : List HI} {x : HI} (h : Srt l) (hl : laysL l x = false) : layL l x = l ∧ ∃ y, getL l x.b = some y ∧ ¬ y.v < x.v := by
  cases split_of l x.b h.pw with
  | no A B e hA hB =>
    subst e
    rw [laysL_no hA hB] at hl; cases hl
  | yes A y B e hy hA hB =>
    subst e
    rw [laysL_yes hA hy] at hl
    have hn := of_decide_eq_false hl
    rw [layL_yes hA hy, if_neg hn, getL_yes hA hy]
    exact ⟨rfl, y, rfl, hn⟩
theorem lays_get {l : List HI} {x : HI} (hl : laysL l x = true) : ∀ y, getL l x.b = some y → y.v < x.v := by
  intro y hy
  rw [laysL, hy] at hl
  exact of_decide_eq_true hl
/-- what the document's Lay leaves: nothing laid, the list itself; or a new one -/
def RLay (w : World) (v : Value) (m : Bool) (l : List HI) (x : HI) (e : Ending) (w' : World) : Prop :=
  ∃ v', e = .returned (.tuple #[v', .bool (putsL m l x)]) ∧ SR w' v' 3 (putL m l x).length (hCells (putL m l x)) ∧ NewRow w v v' ∧ (∀ k, v'.ownBlock = some k → v.ownBlock = some k ∨ k < w'.heap.size) ∧ Below w.heap.size w w'
theorem rlay_same {w w' : World} {v : Value} {m : Bool} {l : List HI} {x : HI} (hv : SR w v 3 l.length (hCells l)) (hb : Below w.heap.size w w') (h1 : putsL m l x = false) (h2 : putL m l x = l) : RLay w v m l x (.returned (.tuple #[v, .bool false])) w' := by
  refine ⟨v, by rw [h1], ?_, .inl rfl, fun k e => .inl e, hb⟩
  rw [h2]
  exact hv.below hb
theorem good_lit (x : HI) (w : World) : SR (w.alloc (.cells #[.int .i64 x.b, .int .u64 x.v, .string x.d] 131)) (.slice (some ⟨w.heap.size, 0, none⟩) 1 1) 3 1 (hCells [x]) := SR.lit w 131 #[.int .i64 x.b, .int .u64 x.v, .string x.d] 3 1 (by decide) rfl
theorem owns_app {w' : World} {N : Nat} {v' : Value} {L : List HI} {x : HI} (h : w'.ownsRow N 131 3 v' (L.length + 1) (hCells L ++ hCells [x])) : w'.ownsRow N 131 3 v' (L ++ [x]).length (hCells (L ++ [x])) := by
  rw [hCells_append, List.length_append]
  exact h
end Go.Proofs.Ytfgmeeponipjeaa
