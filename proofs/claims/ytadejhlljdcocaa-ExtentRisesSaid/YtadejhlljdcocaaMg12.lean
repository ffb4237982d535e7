/-
  Several texts, laid together.
-/
import Derived.Test.YtadejhlljdcocaaMg11
/-
  tarnref09: Get, Same: what the document says of a block's item, and of two lists.
-/

namespace Go.Proofs.Ytadejhlljdcocaa
open Go.RowKit
set_option linter.unusedVariables false
set_option linter.unusedSimpArgs false

theorem get_at {l : List HI} {b : Int} {j : Nat} {x : HI} (h : ∀ y ∈ l.take j, y.b ≠ b) (hx : l[j]? = some x) (hb : x.b = b) : getL l b = some x := by
  have hj := (List.getElem?_eq_some_iff.1 hx).1
  have e : l = l.take j ++ x :: l.drop (j + 1) := by
    rw [List.getElem?_eq_getElem hj] at hx
    have := Option.some.inj hx
    rw [← this, ← List.drop_eq_getElem_cons hj, List.take_append_drop]
  rw [e]
  unfold getL
  rw [List.find?_append, List.find?_eq_none.2 (fun y hy => by simpa using h y hy)]
  simp [hb]
theorem get_none {l : List HI} {b : Int} (h : ∀ y ∈ l, y.b ≠ b) : getL l b = none := by
  unfold getL
  rw [List.find?_eq_none]
  intro y hy
  simpa using h y hy
theorem take_next {l : List HI} {j : Nat} {x : HI} (hx : l[j]? = some x) : l.take (j + 1) = l.take j ++ [x] := by
  have hj := (List.getElem?_eq_some_iff.1 hx).1
  rw [List.getElem?_eq_getElem hj] at hx
  rw [List.take_succ_eq_append_getElem hj, Option.some.inj hx]
theorem heldkey : Try.prog.keyTypeAt 5 125 = true := by kernel_rfl
theorem heldguard : Try.prog.eqGuardType Try.prog.depth 125 = false := by kernel_rfl
theorem held_formed (b x : Int) (s : ByteArray) : (Value.agg #[.int .i64 b, .int .u64 x, .string s]).formed Try.prog 125 = true := by kernel_rfl
theorem held_lits (b x : Int) (s : ByteArray) (hb : (Lit.int .i64 b).wf = true) (hx : (Lit.int .u64 x).wf = true) (hs : s.size ≤ maxLen) : Try.prog.keyLits 5 125 [.int .i64 b, .int .u64 x, .string s] = some [.int .i64 b, .int .u64 x, .string s.data.toList] := by
  have c0 : Try.prog.cellsOf 125 = 3 := by kernel_rfl
  have c1 : Try.prog.cellsOf 71 = 2 := by kernel_rfl
  have c2 : Try.prog.cellsOf 68 = 1 := by kernel_rfl
  have c3 : Try.prog.cellsOf 3 = 1 := by kernel_rfl
  have c4 : Try.prog.cellsOf 9 = 1 := by kernel_rfl
  have hi := item_lits x s hx hs
  have hn : Try.prog.keyLits 4 3 [.int .i64 b] = some [.int .i64 b] := by simp [Program.keyLits, Try.underlying3, hb]
  unfold Program.keyLits
  simp [Try.underlying125, c0, c1, c3, hi, hn]
theorem held_neq (h : HI) (w : World) (hb : (Lit.int .i64 h.b).wf = true) (hx : (Lit.int .u64 h.v).wf = true) (hs : h.d.size ≤ maxLen) :
    (binOp .neq 125 (.agg #[.int .i64 h.b, .int .u64 h.v, .string h.d]) (.agg #[.int .i64 h.b, .int .u64 h.v, .string h.d])).run Try.prog w = .ok (.bool false) w :=
  (eq_deep (m := 5) (D := 5) (D' := 5) heldkey (by decide) (held_formed _ _ _) (held_formed _ _ _) (held_lits _ _ _ hb hx hs) (held_lits _ _ _ hb hx hs) true (by simp) w).2
theorem good_wf {h : HI} (g : Good h) : (Lit.int .i64 h.b).wf = true ∧ (Lit.int .u64 h.v).wf = true ∧ h.d.size ≤ maxLen := by
  obtain ⟨h0, h1, h2, h3⟩ := g
  exact ⟨wf_of (by omega), h2, by unfold maxLen; omega⟩
set_option maxHeartbeats 1600000 in
set_option maxRecDepth 100000 in
theorem rget (l : List HI) (b : Int) (w : World) (v : Value) (hv : SR w v 3 l.length (hCells l)) :
    Calls Try.prog 155 #[v, .int .i64 b] w fun e w' => e = .returned (.tuple #[.agg (itemA (gv (getL l b)) (gd (getL l b))), .bool (getL l b).isSome]) ∧ Below w.heap.size w w' := by
  have hb0 := (Below.refl w.heap.size w).alloc (Nat.le_refl _) (.cells #[.int .u64 0, .string ⟨#[]⟩] 71)
  have hy := heap_alloc_self w (.cells #[.int .u64 0, .string ⟨#[]⟩] 71)
  have hsr := hv.below hb0
  obtain ⟨a, cap, rfl, hlc, hcm⟩ := hv.form
  unfold maxLen at hcm
  obtain ⟨O, hO⟩ : ∃ O, getL l b = O := ⟨_, rfl⟩
  rw [hO]
  have HO := Lib.hid hO
  clear hv hO
  unfold itemA
  go_enter Try.func155, Try.ntmps155
  go_upto_region 1 with fail
  generalize w.alloc (.cells #[.int .u64 0, .string ⟨#[]⟩] 71) = w1 at *
  have HV := Lib.hid hsr
  have HB := Lib.hid hb0
  have f0 : w1.frozen? ⟨w.heap.size, 0, none⟩ = false := by simp [World.frozen?, hy]
  have f1 : w1.frozen? ⟨w.heap.size, 1, none⟩ = false := by simp [World.frozen?, hy]
  have d0 : w1.cell? ⟨w.heap.size, 0, none⟩ = some (.int .u64 0) := by simp [World.cell?, hy]
  have d1 : w1.cell? ⟨w.heap.size, 1, none⟩ = some (.string ⟨#[]⟩) := by simp [World.cell?, hy]
  clear hsr hb0
  go_wp2_with fail
  go_loopw [6] (fun i wr => ∃ j : Nat, j ≤ l.length ∧ i = .int .i64 j ∧ wr = w1 ∧ Hid (∀ y ∈ l.take j, y.b ≠ b)) (fun i _ => l.length - (intOf i).toNat)
  case atStart => exact ⟨0, Nat.zero_le _, rfl, rfl, Lib.hid (by simp)⟩
  case round =>
    obtain ⟨j, hj, rfl, rfl, HN⟩ := hrel
    by_cases hlt : j < l.length
    · obtain ⟨x, hx⟩ : ∃ x, l[j]? = some x := ⟨_, List.getElem?_eq_getElem hlt⟩
      obtain ⟨g, off, rfl, -, c0, c1, c2⟩ := sr_held HV.out j x hx
      have HX := Lib.hid hx
      clear hx
      by_cases hxb : x.b = b
      · obtain rfl : O = some x := by rw [← HO.out]; exact get_at HN.out HX.out hxb
        go_wp2_with fail
        (try simp only [Exit.inBlock, Exit.then])
        obtain ⟨s0, s1⟩ := item_over hy x.v x.d
        have FO := Lib.hid ((HB.out.setCell (p := ⟨w.heap.size, 0, none⟩) (Nat.le_refl _) (.int .u64 x.v)).setCell (p := ⟨w.heap.size, 1, none⟩) (Nat.le_refl _) (.string x.d))
        generalize (wr.setCell ⟨w.heap.size, 0, none⟩ (.int .u64 x.v)).setCell ⟨w.heap.size, 1, none⟩ (.string x.d) = w5 at *
        refine bodyPost_ret (v := .tuple #[.agg #[.int .u64 x.v, .string x.d], .bool true]) (by simp [results, Try.results155, go_sem, s0, s1]) rfl ?_
        exact ⟨rfl, FO.out⟩
      · have hxb' : (x.b == b) = false := by simpa using hxb
        go_wp2_with fail
        go_roundw
        case rel => exact ⟨j + 1, by omega, by go_num, (by first | rfl | trivial), Lib.hid (by rw [take_next HX.out]; intro y hy; rcases List.mem_append.1 hy with h | h; exact HN.out y h; rw [List.mem_singleton.1 h]; exact hxb)⟩
        case measure => simp [intOf]; omega
    · obtain rfl : j = l.length := by omega
      obtain rfl : O = none := by rw [← HO.out]; exact get_none (l := l) (b := b) (by have := HN.out; rwa [List.take_length] at this)
      go_wp2_with fail
      (try simp only [Exit.inBlock, Exit.then])
      obtain ⟨s0, s1⟩ := item_over hy 0 ⟨#[]⟩
      have FO := Lib.hid ((HB.out.setCell (p := ⟨w.heap.size, 0, none⟩) (Nat.le_refl _) (.int .u64 0)).setCell (p := ⟨w.heap.size, 1, none⟩) (Nat.le_refl _) (.string ⟨#[]⟩))
      generalize (wr.setCell ⟨w.heap.size, 0, none⟩ (.int .u64 0)).setCell ⟨w.heap.size, 1, none⟩ (.string ⟨#[]⟩) = w5 at *
      refine bodyPost_ret (v := .tuple #[.agg #[.int .u64 0, .string ⟨#[]⟩], .bool false]) (by simp [results, Try.results155, go_sem, s0, s1]) rfl ?_
      exact ⟨rfl, FO.out⟩
set_option maxHeartbeats 1600000 in
set_option maxRecDepth 100000 in
theorem rsame (l : List HI) (w : World) (u v : Value) (hu : SR w u 3 l.length (hCells l)) (hv : SR w v 3 l.length (hCells l)) (hg : ∀ h ∈ l, Good h) :
    Calls Try.prog 48 #[u, v] w fun e w' => e = .returned (.bool true) ∧ Below w.heap.size w w' := by
  obtain ⟨a, cap, rfl, hlc, hcm⟩ := hu.form
  obtain ⟨a', cap', rfl, hlc', hcm'⟩ := hv.form
  unfold maxLen at hcm hcm'
  have HU := Lib.hid hu
  have HV := Lib.hid hv
  have HG := Lib.hid hg
  have hgt := heldguard
  clear hu hv hg
  go_enter Try.func48, Try.ntmps48
  go_wp2_with fail
  go_loopw [5] (fun i wr => ∃ j : Nat, j ≤ l.length ∧ i = .int .i64 j ∧ Hid (Below w.heap.size w wr)) (fun i _ => l.length - (intOf i).toNat)
  case atStart => exact ⟨0, Nat.zero_le _, rfl, Lib.hid (Below.refl _ _)⟩
  case round =>
    obtain ⟨j, hj, rfl, HB⟩ := hrel
    by_cases hlt : j < l.length
    · obtain ⟨x, hx⟩ : ∃ x, l[j]? = some x := ⟨_, List.getElem?_eq_getElem hlt⟩
      obtain ⟨g, off, rfl, -, c0, c1, c2⟩ := sr_held (HU.out.below HB.out) j x hx
      obtain ⟨g', off', rfl, -, c0', c1', c2'⟩ := sr_held (HV.out.below HB.out) j x hx
      obtain ⟨q0, q1, q2⟩ := good_wf (HG.out x (List.mem_of_getElem? hx))
      have hn := fun w => held_neq x w q0 q1 q2
      have HX := Lib.hid hx
      clear hx
      go_upto_region 6 with fail
      go_quiet (fail)
      go_wp2_with fail
      go_roundw
      case rel => exact ⟨j + 1, by omega, by go_num, Lib.hid (below_drewN' HB.out _)⟩
      case measure => simp [intOf]; omega
    · go_wp2_with fail
      go_ret
      exact ⟨rfl, HB.out⟩
end Go.Proofs.Ytadejhlljdcocaa
/-
  tarnref09: Lay, Drop: with a block's item; without it.
-/

namespace Go.Proofs.Ytadejhlljdcocaa
open Go.RowKit
set_option linter.unusedVariables false
set_option linter.unusedSimpArgs false

def outL (l : List HI) (k : Nat) (x : HI) (j : Nat) : List HI := if j ≤ k then l.take j else l.take k ++ x :: ((l.take j).drop k).filter (fun h => h.b != x.b)
theorem outL_lt {l : List HI} {k j : Nat} {x h : HI} (hj : l[j]? = some h) (hk : j < k) : outL l k x (j + 1) = outL l k x j ++ [h] := by
  unfold outL
  rw [if_pos (by omega), if_pos (by omega), take_next hj]
theorem drop_next {l : List HI} {k j : Nat} {h : HI} (hj : l[j]? = some h) (hk : k ≤ j) : (l.take (j + 1)).drop k = (l.take j).drop k ++ [h] := by
  have := (List.getElem?_eq_some_iff.1 hj).1
  rw [take_next hj, List.drop_append_of_le_length (by rw [List.length_take]; omega)]
theorem outL_eq {l : List HI} {k : Nat} {x h : HI} (hj : l[k]? = some h) : outL l k x (k + 1) = outL l k x k ++ [x] ++ [h].filter (fun h => h.b != x.b) := by
  unfold outL
  have := (List.getElem?_eq_some_iff.1 hj).1
  rw [if_neg (by omega), if_pos (Nat.le_refl _), drop_next hj (Nat.le_refl _), List.drop_eq_nil_of_le (by rw [List.length_take]; omega)]
  simp
theorem outL_gt {l : List HI} {k j : Nat} {x h : HI} (hj : l[j]? = some h) (hk : k < j) : outL l k x (j + 1) = outL l k x j ++ [h].filter (fun h => h.b != x.b) := by
  unfold outL
  rw [if_neg (by omega), if_neg (by omega), drop_next hj (by omega), List.filter_append]
  simp
theorem outL_len (l : List HI) (k : Nat) (x : HI) (j : Nat) : (outL l k x j).length ≤ j + 1 := by
  unfold outL
  split
  · rw [List.length_take]; omega
  · have h1 := List.length_filter_le (fun h : HI => h.b != x.b) ((l.take j).drop k)
    simp only [List.length_append, List.length_cons, List.length_take, List.length_drop] at h1 ⊢
    omega
theorem filt_none {B : List HI} {b : Int} (h : ∀ y ∈ B, b < y.b) : B.filter (fun h => h.b != b) = B := by
  rw [List.filter_eq_self]
  intro y hy
  have := h y hy
  simp; omega
/-- where a block's place is, its item elder than x if there is one: what is laid -/
theorem out_all {l : List HI} {x : HI} (h : Srt l) (hl : laysL l x = true) : layL l x = l.take (atL l x.b) ++ x :: (l.drop (atL l x.b)).filter (fun h => h.b != x.b) ∧ atL l x.b ≤ l.length ∧ (∀ y ∈ l.take (atL l x.b), y.b < x.b) ∧ (∀ y ∈ l.drop (atL l x.b), ¬ y.b < x.b) := by
  cases split_of l x.b h.pw with
  | no A B e hA hB =>
    subst e
    rw [at_no hA hB, layL_no hA hB, List.take_left, List.drop_left, filt_none hB]
    exact ⟨rfl, by simp, hA, fun y hy => by have := hB y hy; omega⟩
  | yes A y B e hy hA hB =>
    subst e
    rw [laysL_yes hA hy] at hl
    have hn : y.v < x.v := of_decide_eq_true hl
    rw [at_yes hA hy, layL_yes hA hy, List.take_left, List.drop_left, if_pos hn, List.filter_cons, if_neg (by simp [hy]), filt_none hB]
    exact ⟨rfl, by simp, hA, fun z hz => by rcases List.mem_cons.1 hz with rfl | hz; omega; have := hB z hz; omega⟩
theorem lay_not {l : List HI} {x : HI} (h : Srt l) (hl : laysL l x = false) : layL l x = l ∧ ∃ y, getL l x.b = some y ∧ ¬ y.v < x.v := by
  cases split_of l x.b h.pw with
  | no A B e hA hB =>
    subst e
    rw [laysL_no hA hB] at hl; cases hl
  | yes A y B e hy hA hB =>
    subst e
    rw [laysL_yes hA hy] at hl
    have hn := of_decide_eq_false hl
    rw [layL_yes hA hy, if_neg hn, getL_yes hA hy]
    exact ⟨rfl, y, rfl, hn⟩
theorem lays_get {l : List HI} {x : HI} (hl : laysL l x = true) : ∀ y, getL l x.b = some y → y.v < x.v := by
  intro y hy
  rw [laysL, hy] at hl
  exact of_decide_eq_true hl
/-- what the document's Lay leaves: nothing laid, the list itself; or a new one -/
def RLay (w : World) (v : Value) (m : Bool) (l : List HI) (x : HI) (e : Ending) (w' : World) : Prop :=
  ∃ v', e = .returned (.tuple #[v', .bool (putsL m l x)]) ∧ SR w' v' 3 (putL m l x).length (hCells (putL m l x)) ∧ NewRow w v v' ∧ (∀ k, v'.ownBlock = some k → v.ownBlock = some k ∨ k < w'.heap.size) ∧ Below w.heap.size w w'
theorem rlay_same {w w' : World} {v : Value} {m : Bool} {l : List HI} {x : HI} (hv : SR w v 3 l.length (hCells l)) (hb : Below w.heap.size w w') (h1 : putsL m l x = false) (h2 : putL m l x = l) : RLay w v m l x (.returned (.tuple #[v, .bool false])) w' := by
  refine ⟨v, by rw [h1], ?_, .inl rfl, fun k e => .inl e, hb⟩
  rw [h2]
  exact hv.below hb
set_option maxHeartbeats 1600000 in
theorem rlay_out (l : List HI) (x : HI) (m : Bool) (w : World) (v : Value) (hv : SR w v 3 l.length (hCells l)) (hx : x.b < 0 ∨ 64 ≤ x.b) :
    Calls Try.prog 114 #[v, .int .i64 x.b, .agg (itemA x.v x.d)] w (RLay w v m l x) := by
  have hib : inB x.b = false := by
    unfold inB
    rw [Bool.and_eq_false_iff]
    simp only [decide_eq_false_iff_not]
    omega
  have HR := fun w' hb => rlay_same (w' := w') hv hb (m := m) (x := x) (by simp [putsL, hib]) (by simp [putL, hib])
  obtain ⟨a, cap, rfl, hlc, hcm⟩ := hv.form
  clear hv
  unfold itemA
  by_cases h0 : x.b < 0
  · go_enter Try.func114, Try.ntmps114
    go_wp2_with fail
    go_returns
    exact HR _ (by go_grown)
  · have h1 : 64 ≤ x.b := by omega
    clear hx
    go_enter Try.func114, Try.ntmps114
    go_wp2_with fail
    go_returns
    exact HR _ (by go_grown)
theorem rlay_bad (l : List HI) (x : HI) (w : World) (v : Value) (hv : SR w v 3 l.length (hCells l)) (n0 : ¬ x.b < 0) (n1 : ¬ 64 ≤ x.b) (hm : MayT false x.v x.d) :
    Calls Try.prog 114 #[v, .int .i64 x.b, .agg (itemA x.v x.d)] w (RLay w v false l x) := by
  have HR := fun w' hb => rlay_same (w' := w') hv hb (m := false) (x := x) (by simp [putsL]) (by simp [putL])
  have hb0 := (Below.refl w.heap.size w).alloc (Nat.le_refl _) (.cells #[.int .u64 x.v, .string x.d] 71)
  have cm := hm.2
  obtain ⟨a, cap, rfl, hlc, hcm⟩ := hv.form
  clear hv hm
  unfold itemA at *
  go_enter Try.func114, Try.ntmps114
  go_wp2_with fail
  refine Calls.mono (cm _) ?_
  rintro e w1 ⟨rfl, hb1⟩
  have HB := Lib.hid (hb0.trans (hb1.mono hb0.size))
  clear hb1 hb0
  go_wp2_with fail
  go_returns
  exact HR _ HB.out
set_option maxHeartbeats 1600000 in
set_option maxRecDepth 100000 in
theorem rlay_old (l : List HI) (x y : HI) (w : World) (v : Value) (hs : Srt l) (hv : SR w v 3 l.length (hCells l)) (n0 : ¬ x.b < 0) (n1 : ¬ 64 ≤ x.b) (hm : MayT true x.v x.d) (hy : getL l x.b = some y) (hn : ¬ y.v < x.v) :
    Calls Try.prog 114 #[v, .int .i64 x.b, .agg (itemA x.v x.d)] w (RLay w v true l x) := by
  have hls : laysL l x = false := by rw [laysL, hy]; exact decide_eq_false hn
  have HR := fun w' hb => rlay_same (w' := w') hv hb (m := true) (x := x) (by simp [putsL, hls]) (by have := (lay_not hs hls).1; unfold putL; split; exact this; rfl)
  have hb0 := (Below.refl w.heap.size w).alloc (Nat.le_refl _) (.cells #[.int .u64 x.v, .string x.d] 71)
  have hz := heap_alloc_self w (.cells #[.int .u64 x.v, .string x.d] 71)
  have cm := hm.2
  have cg := fun w' hb => rget l x.b w' v (hv.below (w' := w') hb)
  rw [hy, show gv (some y) = y.v from rfl, show gd (some y) = y.d from rfl, show (some y).isSome = true from rfl] at cg
  obtain ⟨a, cap, rfl, hlc, hcm⟩ := hv.form
  clear hv hm hy hls
  unfold itemA at *
  go_enter Try.func114, Try.ntmps114
  go_wp2_with fail
  refine Calls.mono (cm _) ?_
  rintro e w1 ⟨rfl, hb1⟩
  have hb2 := hb0.trans (hb1.mono hb0.size)
  have yy := below_at hb1 (lt_heap hz) hz
  go_wp2_with fail
  refine Calls.mono (cg _ hb2) ?_
  rintro e w3 ⟨rfl, hb3⟩
  have y3 := below_at hb3 (lt_heap yy) yy
  have hb4 := hb2.trans (hb3.mono hb2.size)
  have hb5 := hb4.alloc hb4.size (.cells #[.int .u64 y.v, .string y.d] 71)
  have hq := heap_alloc_self w3 (.cells #[.int .u64 y.v, .string y.d] 71)
  have y4 := alloc_farS (o := .cells #[.int .u64 y.v, .string y.d] 71) y3
  clear hb0 hb1 hb2 hb3 hb4 yy y3 hz cm cg
  go_upto_region 4 with fail
  generalize w3.alloc (.cells #[.int .u64 y.v, .string y.d] 71) = w5 at *
  have HB := Lib.hid hb5
  have d0 : w5.cell? ⟨w3.heap.size, 0, none⟩ = some (.int .u64 y.v) := by simp [World.cell?, hq]
  have d1 : w5.cell? ⟨w.heap.size, 0, none⟩ = some (.int .u64 x.v) := by simp [World.cell?, y4]
  clear hb5 hq y4
  go_wp2_with fail
  go_returns
  exact HR _ HB.out
theorem good_lit (x : HI) (w : World) : SR (w.alloc (.cells #[.int .i64 x.b, .int .u64 x.v, .string x.d] 125)) (.slice (some ⟨w.heap.size, 0, none⟩) 1 1) 3 1 (hCells [x]) := SR.lit w 125 #[.int .i64 x.b, .int .u64 x.v, .string x.d] 3 1 (by decide) rfl
theorem owns_app {w' : World} {N : Nat} {v' : Value} {L : List HI} {x : HI} (h : w'.ownsRow N 125 3 v' (L.length + 1) (hCells L ++ hCells [x])) : w'.ownsRow N 125 3 v' (L ++ [x]).length (hCells (L ++ [x])) := by
  rw [hCells_append, List.length_append]
  exact h
end Go.Proofs.Ytadejhlljdcocaa
/-
  tarnref09: Lay, where it is laid; Drop.
-/

namespace Go.Proofs.Ytadejhlljdcocaa
open Go.RowKit
set_option linter.unusedVariables false
set_option linter.unusedSimpArgs false

/-- what the loop of Lay keeps -/
def LRel (N : Nat) (w : World) (l : List HI) (k : Nat) (x : HI) (j : Nat) (o : Value) (wr : World) : Prop := wr.ownsRow N 125 3 o (outL l k x j).length (hCells (outL l k x j)) ∧ Below N w wr
theorem lrel_to {N : Nat} {w wr : World} {l : List HI} {k j : Nat} {x : HI} {o : Value} {L : List HI} (h : wr.ownsRow N 125 3 o L.length (hCells L)) (hb : Below N w wr) (e : outL l k x j = L) : LRel N w l k x j o wr := by
  unfold LRel
  rw [e]
  exact ⟨h, hb⟩
theorem lapp_below {N : Nat} {w wr w2 : World} {ob : Obj} {o : Value} {n : Nat} {xs : List Value} (hb : Below N w wr) (hN : N ≤ wr.heap.size) (ho : wr.ownsRow N 125 3 o n xs) (hg : (wr.alloc ob).grownBy w2 o.ownBlock) : Below N w w2 :=
  below_app (hb.alloc hN ob) hg (ho.alloc ob) (Nat.le_refl _) (by simp; omega)
theorem own_mono {w : World} {base base' n size : Nat} {e : TypeId} {v : Value} {xs : List Value} (h : w.ownsRow base e size v n xs) (hb : base' ≤ base) : w.ownsRow base' e size v n xs :=
  ⟨h.1, h.2.imp id fun ⟨g, cap, cur, a, b, c⟩ => ⟨g, cap, cur, a, Nat.le_trans hb b, c⟩⟩
set_option maxHeartbeats 3200000 in
set_option maxRecDepth 100000 in
theorem rlay_new (l : List HI) (x : HI) (w : World) (v : Value) (hs : Srt l) (hv : SR w v 3 l.length (hCells l)) (hx : Good x) (hm : MayT true x.v x.d) (hls : laysL l x = true) :
    Calls Try.prog 114 #[v, .int .i64 x.b, .agg (itemA x.v x.d)] w (RLay w v true l x) := by
  obtain ⟨i0, hi, hz0, hz1, hz2⟩ := info_parts info_held
  have n0 : ¬ x.b < 0 := by have := hx.1; omega
  have n1 : ¬ 64 ≤ x.b := by have := hx.2.1; omega
  have hib : inB x.b = true := by simp [inB, hx.1, hx.2.1]
  have hl64 := hs.len
  obtain ⟨hall, hkl, hA, hC⟩ := out_all hs hls
  obtain ⟨k, hk⟩ : ∃ k, k = atL l x.b := ⟨_, rfl⟩
  rw [← hk] at hall hkl hA hC
  have HR : Hid (∀ w' v', w'.ownsRow w.heap.size 125 3 v' (layL l x).length (hCells (layL l x)) → Below w.heap.size w w' → RLay w v true l x (.returned (.tuple #[v', .bool true])) w') := fun w' v' ho hb => by
    have e1 : putsL true l x = true := by simp [putsL, hib, hls]
    have e2 : putL true l x = layL l x := by simp [putL, hib]
    refine ⟨v', by rw [e1], by rw [e2]; exact SR.owns ho, .inr fun q e => (ho.lt q e).1, fun q e => .inr (ho.lt q e).2, hb⟩
  have HLAY := Lib.hid hall
  have HA := Lib.hid hA
  have HC := Lib.hid hC
  have hb0 := (Below.refl w.heap.size w).alloc (Nat.le_refl _) (.cells #[.int .u64 x.v, .string x.d] 71)
  have hz := heap_alloc_self w (.cells #[.int .u64 x.v, .string x.d] 71)
  have cm := hm.2
  have cg := fun w' hb => rget l x.b w' v (hv.below (w' := w') hb)
  have hlg := lays_get hls
  have key : ∀ (iss : Bool) (G : Int) (D : ByteArray), (iss = true → G < x.v) → (∀ w', Below w.heap.size w w' → Calls Try.prog 155 #[v, .int .i64 x.b] w' fun e w'' => e = .returned (.tuple #[.agg (itemA G D), .bool iss]) ∧ Below w'.heap.size w' w'') →
      Calls Try.prog 114 #[v, .int .i64 x.b, .agg (itemA x.v x.d)] w (RLay w v true l x) := by
    intro iss G D hG cg
    have HV := Lib.hid hv
    obtain ⟨a, cap, rfl, hlc, hcm⟩ := hv.form
    unfold maxLen at hcm
    clear hv hm hlg hs hls hx hk hall hA hC hib
    unfold itemA at *
    cases iss
    all_goals
      (try have hG2 : ¬ x.v ≤ G := by have := hG rfl; omega)
      clear hG
      go_enter Try.func114, Try.ntmps114
      go_wp2_with fail
      refine Calls.mono (cm _) ?_
      rintro e w1 ⟨rfl, hb1⟩
      have hb2 := hb0.trans (hb1.mono hb0.size)
      have yy := below_at hb1 (lt_heap hz) hz
      go_wp2_with fail
      refine Calls.mono (cg _ hb2) ?_
      rintro e w3 ⟨rfl, hb3⟩
      have y3 := below_at hb3 (lt_heap yy) yy
      have hb4 := hb2.trans (hb3.mono hb2.size)
      have hb5 := hb4.alloc hb4.size (.cells #[.int .u64 G, .string D] 71)
      have hq := heap_alloc_self w3 (.cells #[.int .u64 G, .string D] 71)
      have y4 := alloc_farS (o := .cells #[.int .u64 G, .string D] 71) y3
      clear hb0 hb1 hb2 hb3 hb4 yy y3 hz cm cg
      go_upto_region 4 with fail
      generalize w3.alloc (.cells #[.int .u64 G, .string D] 71) = w5 at *
      have HB := Lib.hid hb5
      have d0 : w5.cell? ⟨w3.heap.size, 0, none⟩ = some (.int .u64 G) := by simp [World.cell?, hq]
      have d1 : w5.cell? ⟨w.heap.size, 0, none⟩ = some (.int .u64 x.v) := by simp [World.cell?, y4]
      have HY := Lib.hid y4
      clear hb5 hq y4
      go_wp2_with fail
      go_loopw [10, 11, 12] (fun o inn i wr => ∃ j : Nat, j ≤ l.length ∧ i = .int .i64 j ∧ inn = .bool (decide (k < j)) ∧ Hid (LRel w5.heap.size w5 l k x j o wr)) (fun _ _ i _ => l.length - (intOf i).toNat)
      case atStart => exact ⟨0, Nat.zero_le _, rfl, by simp, Lib.hid (lrel_to (L := []) (World.ownsRow_lit (base := w5.heap.size) w5 #[] 0 (Nat.le_refl _) (by decide) rfl) (by go_grown) (by simp [outL]))⟩
      case round =>
        obtain ⟨j, hj, rfl, rfl, HL⟩ := hrel
        have hwr := HL.out.2.size
        have hol := outL_len l k x j
        have HB6 := Lib.hid (HB.out.trans (HL.out.2.mono HB.out.size))
        have yb := below_at HL.out.2 (lt_heap HY.out) HY.out
        have e0 : wr.cell? ⟨w.heap.size, 0, none⟩ = some (.int .u64 x.v) := by simp [World.cell?, yb]
        have e1 : wr.cell? ⟨w.heap.size, 1, none⟩ = some (.string x.d) := by simp [World.cell?, yb]
        clear yb
        by_cases hlt : j < l.length
        · obtain ⟨h, hh⟩ : ∃ h, l[j]? = some h := ⟨_, List.getElem?_eq_getElem hlt⟩
          have HH := Lib.hid hh
          obtain ⟨g, off, hga, hgl, c0, c1, c2⟩ := sr_held (HV.out.below HB6.out) j h hh
          subst hga
          clear hh
          rcases Nat.lt_trichotomy j k with hjk | hjk | hjk
          · have hin : decide (k < j) = false := decide_eq_false (by omega)
            have hbx : h.b < x.b := HA.out h (by rw [List.mem_take_iff_getElem]; exact ⟨j, by omega, by have := HH.out; rw [List.getElem?_eq_getElem hlt] at this; exact Option.some.inj this⟩)
            have hb2 : ¬ x.b ≤ h.b := by omega
            have hb3 : ¬ h.b = x.b := by omega
            have hb4 : (h.b == x.b) = false := by simpa using hb3
            rw [hin]
            go_wp2_with (at_builtin; refine wp_app Try.underlying81 hi hz0 hz1 hz2 rfl (by decide) rfl (.tmp 71) (.tmp 76) rfl w5.heap.size _ _ _ rfl (HL.out.1.alloc _) _ 1 (hCells [h]) rfl (good_lit h _) ?c1 ?c2 ?c3 ?c4 ?_)
            case c1 => exact hCells_one _
            case c2 => unfold maxLen; omega
            case c3 => omega
            case c4 => first | omega | (simp; omega)
            intro v' w2 hown hgr
            have HOw2 := Lib.hid (owns_app hown)
            have HGw2 := Lib.hid hgr
            clear hown hgr
            go_wp2_with fail
            go_roundw
            case rel => exact ⟨j + 1, by omega, by go_num, by rw [decide_eq_false (by omega)], Lib.hid (lrel_to HOw2.out (lapp_below HL.out.2 hwr HL.out.1 HGw2.out) (outL_lt HH.out hjk))⟩
            case measure => simp [intOf]; omega
          · subst hjk
            have hin : decide (j < j) = false := decide_eq_false (by omega)
            have hbx : ¬ h.b < x.b := by
              have := HC.out h (by rw [List.mem_drop_iff_getElem]; exact ⟨0, by omega, by have := HH.out; rw [List.getElem?_eq_getElem hlt] at this; simpa using Option.some.inj this⟩)
              omega
            have hb2 : x.b ≤ h.b := by omega
            rw [hin]
            go_wp2_with (at_builtin; refine wp_app Try.underlying81 hi hz0 hz1 hz2 rfl (by decide) rfl (.tmp 58) (.tmp 62) rfl w5.heap.size _ _ _ rfl (HL.out.1.alloc _) _ 1 (hCells [x]) rfl (good_lit x _) ?c1 ?c2 ?c3 ?c4 ?_)
            case c1 => exact hCells_one _
            case c2 => unfold maxLen; omega
            case c3 => omega
            case c4 => first | omega | (simp; omega)
            intro v' w2 hown hgr
            have HOw2 := Lib.hid (owns_app hown)
            have HGw2 := Lib.hid hgr
            clear hown hgr
            have hb7 := lapp_below HL.out.2 hwr HL.out.1 HGw2.out
            have HB7 := Lib.hid hb7
            have hw2 := hb7.size
            have hol2 : (outL l j x j ++ [x]).length ≤ j + 2 := by simp; omega
            obtain ⟨g', off', hga, hgl', c0', c1', c2'⟩ := sr_held (HV.out.below (HB.out.trans (hb7.mono HB.out.size))) j h HH.out
            injection hga with hga
            injection hga with hg1 hg2
            subst hg1 hg2
            clear c0 c1 c2 hb7 e0 e1
            by_cases hbe : h.b = x.b
            · have hb4 : (h.b == x.b) = true := by simpa using hbe
              have hb5 : (h.b != x.b) = false := by simp [bne, hb4]
              go_wp2_with fail
              go_roundw
              case rel => exact ⟨j + 1, by omega, by go_num, by rw [decide_eq_true (by omega)], Lib.hid (lrel_to HOw2.out HB7.out (by rw [outL_eq HH.out]; simp [hb5]))⟩
              case measure => simp [intOf]; omega
            · have hb4 : (h.b == x.b) = false := by simpa using hbe
              have hb5 : (h.b != x.b) = true := by simp [bne, hb4]
              go_wp2_with (at_builtin; refine wp_app Try.underlying81 hi hz0 hz1 hz2 rfl (by decide) rfl (.tmp 71) (.tmp 76) rfl w5.heap.size _ _ _ rfl (HOw2.out.alloc _) _ 1 (hCells [h]) rfl (good_lit h _) ?c1 ?c2 ?c3 ?c4 ?_)
              case c1 => exact hCells_one _
              case c2 => unfold maxLen; omega
              case c3 => omega
              case c4 => first | omega | (simp; omega)
              intro v3 w9 hown hgr
              have HOw9 := Lib.hid (owns_app (L := outL l j x j ++ [x]) (by rw [List.length_append]; exact hown))
              have HGw9 := Lib.hid hgr
              clear hown hgr
              go_wp2_with fail
              go_roundw
              case rel => exact ⟨j + 1, by omega, by go_num, by rw [decide_eq_true (by omega)], Lib.hid (lrel_to HOw9.out (lapp_below HB7.out hw2 HOw2.out HGw9.out) (by rw [outL_eq HH.out]; simp [hb5]))⟩
              case measure => simp [intOf]; omega
          · have hin : decide (k < j) = true := decide_eq_true (by omega)
            rw [hin]
            by_cases hbe : h.b = x.b
            · have hb4 : (h.b == x.b) = true := by simpa using hbe
              have hb5 : (h.b != x.b) = false := by simp [bne, hb4]
              go_wp2_with fail
              go_roundw
              case rel => exact ⟨j + 1, by omega, by go_num, by rw [decide_eq_true (by omega)], Lib.hid (lrel_to HL.out.1 HL.out.2 (by rw [outL_gt HH.out hjk]; simp [hb5]))⟩
              case measure => simp [intOf]; omega
            · have hb4 : (h.b == x.b) = false := by simpa using hbe
              have hb5 : (h.b != x.b) = true := by simp [bne, hb4]
              go_wp2_with (at_builtin; refine wp_app Try.underlying81 hi hz0 hz1 hz2 rfl (by decide) rfl (.tmp 71) (.tmp 76) rfl w5.heap.size _ _ _ rfl (HL.out.1.alloc _) _ 1 (hCells [h]) rfl (good_lit h _) ?c1 ?c2 ?c3 ?c4 ?_)
              case c1 => exact hCells_one _
              case c2 => unfold maxLen; omega
              case c3 => omega
              case c4 => first | omega | (simp; omega)
              intro v' w2 hown hgr
              have HOw2 := Lib.hid (owns_app hown)
              have HGw2 := Lib.hid hgr
              clear hown hgr
              go_wp2_with fail
              go_roundw
              case rel => exact ⟨j + 1, by omega, by go_num, by rw [decide_eq_true (by omega)], Lib.hid (lrel_to HOw2.out (lapp_below HL.out.2 hwr HL.out.1 HGw2.out) (by rw [outL_gt HH.out hjk]; simp [hb5]))⟩
              case measure => simp [intOf]; omega
        · obtain rfl : j = l.length := by omega
          by_cases hkl2 : k < l.length
          · have hin : decide (k < l.length) = true := decide_eq_true hkl2
            have hfin : outL l k x l.length = layL l x := by rw [HLAY.out]; unfold outL; rw [if_neg (by omega), List.take_length]
            have HQ := Lib.hid (HR _ _ (by have := (own_mono HL.out.1 HB.out.size); rw [hfin] at this; exact this) HB6.out)
            rw [hin]
            go_wp2_with fail
            go_returns
            exact HQ.out
          · have hke : k = l.length := by omega
            subst hke
            have hin : decide (l.length < l.length) = false := decide_eq_false hkl2
            have hfin : outL l l.length x l.length ++ [x] = layL l x := by rw [HLAY.out]; unfold outL; rw [if_pos (Nat.le_refl _)]; simp
            rw [hin]
            go_wp2_with (at_builtin; refine wp_app Try.underlying81 hi hz0 hz1 hz2 rfl (by decide) rfl (.tmp 80) (.tmp 84) rfl w5.heap.size _ _ _ rfl (HL.out.1.alloc _) _ 1 (hCells [x]) rfl (good_lit x _) ?c1 ?c2 ?c3 ?c4 ?_)
            case c1 => exact hCells_one _
            case c2 => unfold maxLen; omega
            case c3 => omega
            case c4 => first | omega | (simp; omega)
            intro v' w2 hown hgr
            have HOw2 := Lib.hid (owns_app hown)
            have HGw2 := Lib.hid hgr
            clear hown hgr
            have HB7 := Lib.hid (lapp_below HL.out.2 hwr HL.out.1 HGw2.out)
            have HQ := Lib.hid (HR _ _ (by have := (own_mono HOw2.out HB.out.size); rw [hfin] at this; exact this) (HB.out.trans (HB7.out.mono HB.out.size)))
            go_wp2_with fail
            go_returns
            exact HQ.out
  cases hO : getL l x.b with
  | none => exact key false 0 ⟨#[]⟩ (by simp) (by rw [hO] at cg; exact cg)
  | some y => exact key true y.v y.d (fun _ => hlg y hO) (by rw [hO] at cg; exact cg)
end Go.Proofs.Ytadejhlljdcocaa
