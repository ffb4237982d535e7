/-
  A history: full; all of it; what is open.
-/
import Derived.Test.YtadejhlljdcocaaCliB
import Derived.Sort.OwnSortedInts
namespace Go.Proofs.Ytadejhlljdcocaa
open Go.RowKit
open Go.Maps (Keyed)
open Go.Sort Go.ChangeShapes Go.WideShapes
set_option linter.unusedVariables false
set_option linter.unusedSimpArgs false

set_option maxHeartbeats 1600000 in
/-- where the most were noted, nothing is asked for -/
theorem cask_full (g what at_ len : Int) (data : ByteArray) (sure : Bool) (w : World) (N p b : Nat) (sv : Value) (E : List EV) (n : Nat) (op : List Int) (h : Hist w N p b sv E n op) (hE : 2000 ≤ E.length) :
    Calls Try.prog 50 #[.pointer (some ⟨p, 0, none⟩), .int .i64 g, .agg #[.int .i64 what, .int .i64 at_, .int .i64 len, .string data, .bool sure]] w fun e w' => e = .returned (.int .i64 0) ∧ Below w.heap.size w w' := by
  obtain ⟨D, h0, hD⟩ := h.parts
  have hb0 := (Below.refl w.heap.size w).alloc (Nat.le_refl _) (.cells #[.int .i64 what, .int .i64 at_, .int .i64 len, .string data, .bool sure] 96)
  have h1 := h0.below hb0
  obtain ⟨a, cap, rfl, -⟩ := (SR.owns h0.ev).form
  have em := map_is b
  have hEI : (2000 : Int) ≤ E.length := by omega
  have HB := Lib.hid hb0
  clear h h0 hD hb0
  go_enter Try.func50, Try.ntmps50
  go_upto_region 1 with fail
  generalize w.alloc (.cells #[.int .i64 what, .int .i64 at_, .int .i64 len, .string data, .bool sure] 96) = w1 at *
  obtain ⟨c0, c1, c2, fz⟩ := h1.cells
  clear h1
  go_wp2_with fail
  go_ret
  exact ⟨rfl, HB.out⟩
set_option maxHeartbeats 1600000 in
/-- all of it -/
theorem call_ (w : World) (N p b : Nat) (sv : Value) (E : List EV) (n : Nat) (op : List Int) (h : Hist w N p b sv E n op) (hE : E.length ≤ 100000) :
    Calls Try.prog 52 #[.pointer (some ⟨p, 0, none⟩)] w fun e w' => ∃ v', e = .returned v' ∧ w'.ownsRow w.heap.size 104 10 v' E.length (evC E) ∧ Below w.heap.size w w' := by
  obtain ⟨i0, hi, hz0, hz1, hz2⟩ := ev_zero
  obtain ⟨D, h0, -⟩ := h.parts
  obtain ⟨c0, c1, c2, -⟩ := h0.cells
  have HR := Lib.hid (SR.owns h0.ev)
  clear h h0
  go_enter Try.func52, Try.ntmps52
  go_wp2_with (at_builtin; refine wp_app Try.underlying94 hi hz0 hz1 hz2 rfl (by decide) rfl (.const (.slice none 0 0)) (.tmp 8) rfl w.heap.size (.slice none 0 0) 0 [] rfl (World.ownsRow_nil _ _ _ _) sv E.length (evC E) rfl HR.out ?c1 ?c2 ?c3 ?c4 ?_)
  case c1 => exact evC_one E
  case c2 => unfold maxLen; omega
  case c3 => omega
  case c4 => exact Nat.le_refl _
  intro v' w2 hown2 hgr
  have HG := Lib.hid hgr
  have HO := Lib.hid hown2
  clear hgr hown2
  go_wp2_with fail
  go_ret
  refine ⟨_, rfl, ?_, below_app (Below.refl _ _) HG.out (World.ownsRow_nil w w.heap.size 104 10) (Nat.le_refl _) (Nat.le_refl _)⟩
  exact HO.out
theorem oinfoC : (Try.prog.info? 3).map (fun i => (i.zero, i.size, i.bytes)) = some (some (.int .i64 0), 1, 8) := by kernel_rfl
/-- numbers met so far: none twice; a number is among them just where the map has it and it is no longer to come -/
def CollI (D0 : DataW Unit) (left : Lit → Bool) (ss : List Int) : Prop := ss.Nodup ∧ ∀ x, x ∈ ss ↔ (Maps.has D0 (.int .i64 x) = true ∧ left (.int .i64 x) = false)
theorem CollI.start (D0 : DataW Unit) : CollI D0 (Maps.has D0) [] := ⟨List.nodup_nil, fun x => by cases Maps.has D0 (.int .i64 x) <;> simp⟩
theorem CollI.step {D0 : DataW Unit} {left : Lit → Bool} {ss : List Int} (h : CollI D0 left ss) {x : Int} {y : DataW Unit} (hlk : left (.int .i64 x) = true) (hat : ∀ zd, D0.atKey (.int .i64 x) zd = y) : CollI D0 (fun z => left z && !z.sameKey (.int .i64 x)) (ss ++ [x]) := by
  have hhas : Maps.has D0 (.int .i64 x) = true := Maps.has_true_of_atKey hat
  have hnew : x ∉ ss := fun hx => by have := ((h.2 x).1 hx).2; rw [hlk] at this; cases this
  refine ⟨List.nodup_append.2 ⟨h.1, by simp, fun a ha b hb => by simp at hb; subst hb; exact fun e => hnew (e ▸ ha)⟩, fun y => ?_⟩
  by_cases hy : y = x
  · subst hy; simp [hhas, Lit.sameKey]
  · simp [h.2 y, hy, Lit.sameKey]
theorem sort_of {ss op : List Int} (hn : ss.Nodup) (hm : ∀ x, x ∈ ss ↔ x ∈ op) (hup : op.Pairwise (· < ·)) : ss.mergeSort (fun x y => decide (x ≤ y)) = op ∧ ss.length = op.length := by
  have hop : op.Nodup := hup.imp (fun {a b} q e => by omega)
  have hp : ss.Perm op := (List.perm_ext_iff_of_nodup hn hop).2 hm
  refine ⟨List.Perm.eq_of_pairwise (le := fun a b => a ≤ b) (fun a b _ _ h1 h2 => by omega) ?_ (hup.imp (fun {a b} q => by omega)) ((List.mergeSort_perm _ _).trans hp), hp.length_eq⟩
  have := List.pairwise_mergeSort (le := fun x y : Int => decide (x ≤ y)) (fun a b c h1 h2 => by simp at *; omega) (fun a b => by simp; omega) ss
  exact this.imp (fun {a b} q => by simpa using q)
theorem csort (base : Nat) (v : Value) (ss op : List Int) (w : World) (h : w.ownsRow base 3 1 v ss.length (nCells ss)) (hs : ss.mergeSort (fun x y => decide (x ≤ y)) = op) (hlen : ss.length = op.length) (hl : ss.length ≤ 1000000) :
    Calls Try.prog 82 #[v] w fun e w' => e = .returned (.tuple #[]) ∧ w'.ownsRow base 3 1 v op.length (nCells op) ∧ w.grownBy w' v.ownBlock := by
  rcases h.2 with ⟨rfl, h0⟩ | ⟨g, cap, cur, rfl, hb, hg, hnc, hcm, hcs, ht⟩
  · refine Calls.mono (Try.slices_Sort_int_none none 0 w) ?_
    rintro e w' ⟨rfl, rfl⟩
    have : op = [] := List.eq_nil_of_length_eq_zero (by omega)
    subst this
    exact ⟨rfl, World.ownsRow_nil _ _ _ _, World.grownBy.refl _ _⟩
  · have ht' : cur.toList.take ss.length = ss.map (Value.int .i64) := by simpa [nCells] using ht
    refine Calls.mono (Try.slices_Sort_int g 0 cap ss w (holds_of_blockI hg ht') (lt_heap hg) (by omega)) ?_
    rintro e w' ⟨rfl, n, os, rfl⟩
    rw [hs]
    refine ⟨rfl, ?_, grownBy_sortedI _⟩
    have := ownsRow_sortedI (n := n) (os := os) (base := base) (ts := op) hlen.symm hb hg hnc hcm (by simpa using hcs)
    rw [← hlen]
    exact this
set_option maxHeartbeats 3200000 in
set_option maxRecDepth 100000 in
/-- what is open, in order -/
theorem copen (w : World) (N p b : Nat) (sv : Value) (E : List EV) (n : Nat) (op : List Int) (h : Hist w N p b sv E n op) (hl : n ≤ 100000) :
    Calls Try.prog 53 #[.pointer (some ⟨p, 0, none⟩)] w fun e w' => ∃ v', e = .returned v' ∧ w'.ownsRow w.heap.size 3 1 v' op.length (nCells op) ∧ Below w.heap.size w w' := by
  obtain ⟨i0, hi, hz0, hz1, hz2⟩ := info_parts oinfoC
  obtain ⟨D, h0, hD⟩ := h.parts
  obtain ⟨c0, c1, c2, -⟩ := h0.cells
  have HM := Lib.hid h0.map
  have HD := Lib.hid (And.intro hD h.up)
  clear h h0 hD
  go_enter Try.func53, Try.ntmps53
  go_wp2_with (at_range; refine wpList_range_own _ rfl (.tmp 10) 169 rfl 3 3 keyI Try.underlying169 plI b n D rfl HM.out ?_; intro w1 hrg hgr hsz)
  go_frame
  obtain ⟨r, hr⟩ : ∃ r, w.heap.size = r := ⟨_, rfl⟩
  have hn := HM.out.size_le
  have hbr : b < r := by have := HM.out.lt; omega
  have H1 := Lib.hid (show w1.ranges Try.prog 3 plI b r n D (Maps.has D) (Maps.size D) ∧ w1.ownsRow (r + 1) 3 1 (.slice none 0 0) ([] : List Int).length (nCells []) ∧ CollI D (Maps.has D) [] ∧ Below r w w1 from ⟨by rw [← hr]; exact hrg, World.ownsRow_nil _ _ _ _, CollI.start D, ⟨hgr.os, hgr.tape, hgr.output, hgr.size, fun k hk => hgr.block k (by omega) (by simp)⟩⟩)
  rw [hr]
  have HRR := Lib.hid hr
  clear hrg hgr hsz hr
  go_loopw [3] (fun v wr => ∃ (left : Lit → Bool) (cnt : Nat) (ss : List Int), Hid (wr.ranges Try.prog 3 plI b r n D left cnt ∧ wr.ownsRow (r + 1) 3 1 v ss.length (nCells ss) ∧ CollI D left ss ∧ Below r w wr) ∧ ss.length + cnt ≤ n) (fun _ wr => wr.rangeLeft b r)
  case atStart => exact ⟨_, _, [], H1, by simpa using hn⟩
  case round =>
    obtain ⟨left, cnt, ss, HR, hcnt⟩ := hrel
    clear H1
    go_wp2_with (at_next; refine wpList_next_ranges_ii _ rfl (.tmp 11) rfl 3 3 .i64 .i64 keyI Try.underlying3 Try.underlying3 b r n D left cnt rfl HR.out.1 ?done ?more)
    case done =>
      intro h0 hleft
      have hso := sort_of HR.out.2.2.1.1 (fun x => by rw [HR.out.2.2.1.2 x, hleft, HD.out.1 x]; simp) HD.out.2
      have cs := csort (r + 1) u3 ss op wr HR.out.2.1 hso.1 hso.2 (by omega)
      clear hleft h0
      go_wp2_with fail
      refine Calls.mono cs ?_
      rintro e w3 ⟨rfl, ho, hg⟩
      have HO := Lib.hid ho
      have HB := Lib.hid (show Below r w w3 from HR.out.2.2.2.grown hg (by rw [← HRR.out]; exact HR.out.2.2.2.size) (fun k hk => by have := (HR.out.2.1.lt k hk).1; omega))
      clear ho hg cs hso
      go_wp2_with fail
      go_ret
      rw [HRR.out]
      refine ⟨_, rfl, ?_, HB.out⟩
      obtain ⟨q1, q2⟩ := HO.out
      refine ⟨q1, q2.imp id ?_⟩
      rintro ⟨g, cap, cur, e, hb, q⟩
      exact ⟨g, cap, cur, e, by omega, q⟩
    case more =>
      intro x c w2 cnt' hwx hwc hlk hat hrg' hlt hgr' hsz' hen
      have ho2 := HR.out.2.1.kept hgr' (by
        cases hv : u3.ownBlock with
        | none => exact .inl rfl
        | some k => exact .inr (fun e => by injection e with e; have := (HR.out.2.1.lt k hv).1; omega))
      have hb2 : Below r w w2 := HR.out.2.2.2.grown hgr' (by rw [← HRR.out]; exact HR.out.2.2.2.size) (fun k hk => by injection hk with hk; omega)
      have H2 := Lib.hid (And.intro hrg' (And.intro ho2 (And.intro (HR.out.2.2.1.step hlk hat) hb2)))
      have hrz : r < w2.heap.size := hrg'.lt
      clear hwc hlk hat hrg' hgr' hsz' ho2 hb2
      go_wp2_with (at_builtin; refine wp_app Try.underlying29 hi hz0 hz1 hz2 rfl (by decide) rfl (.tmp 16) (.tmp 18) rfl (r + 1) _ ss.length _ rfl (H2.out.2.1.alloc _) _ 1 [.int .i64 x] rfl (SR.lit _ _ _ 1 1 (by decide) rfl) ?c1 ?c2 ?c3 ?c4 ?_)
      case c1 => intro y hy; rw [List.mem_singleton.1 hy]; rfl
      case c2 => unfold maxLen; omega
      case c3 => omega
      case c4 => simp; omega
      intro v' w3 hown hgr
      have hne : ∀ k, u3.ownBlock = some k → r + 1 ≤ k := fun k hk => (H2.out.2.1.lt k hk).1
      have H3 := Lib.hid (show w3.ranges Try.prog 3 plI b r n D _ cnt' ∧ w3.ownsRow (r + 1) 3 1 v' (ss ++ [x]).length (nCells (ss ++ [x])) ∧ CollI D _ (ss ++ [x]) ∧ Below r w w3 from
        ⟨(H2.out.1.alloc _).kept hgr (fun e => by have := hne b e.symm; omega) (fun e => by have := hne r e.symm; omega), by rw [List.length_append, ← nCells_append]; exact hown, H2.out.2.2.1, (H2.out.2.2.2.alloc (by rw [← HRR.out]; exact H2.out.2.2.2.size) _).grown hgr (by simp; omega) (fun k hk => by have := hne k hk; omega)⟩)
      have hm1 := HR.out.1.left_eq
      have hm3 := H3.out.1.left_eq
      clear hown hgr hen
      go_wp2_with fail
      go_roundw
      case rel => exact ⟨_, cnt', ss ++ [x], H3, by simp; omega⟩
      case measure => omega
end Go.Proofs.Ytadejhlljdcocaa
