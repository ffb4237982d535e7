/-
  Several texts, laid together.
-/
import Derived.Test.YtgnnijpfkgmomaaGreatDoorMh6
import Derived.RangeFuncNested
import Derived.RangeFuncBound
import Derived.RangeFuncCalls
import Derived.RangeFuncLeaves
import Derived.Shelf.Abstract
import Derived.Shelf.RegionOpen
import Derived.OwnWalkIn
import Derived.TacticsInMore
import Derived.LoopNIn
import Derived.LoopIn
/-
  disk.Read: a range over a function that goes over the writings, the last one first.
-/











namespace Go.Proofs.YtgnnijpfkgmomaaGreatDoor
open Go.RowKit Go.Shelf
set_option linter.unusedVariables false
set_option linter.unusedSimpArgs false
attribute [local go_sem] Oper.semAt_some

/-- what a reading finds -/
def curD (S : List ByteArray) (L : List (Nat × ByteArray)) (at' : Nat) : ByteArray :=
  match L.reverse.find? (fun x => x.1 == at') with
  | some x => x.2
  | none => S.getD at' ⟨#[]⟩
def encW (x : Nat × ByteArray) : Array Value := #[.agg #[.int .i64 x.1, .string x.2]]

set_option maxRecDepth 100000 in
set_option maxHeartbeats 2000000 in
theorem diter (F : Fence) (n : Nat) (hF : F.fn 111) (hro : F.round = none) (hn : 1 ≤ n) (l Bn n₀ N p : Nat) (sv lv : Value) (S : List ByteArray) (L : List (Nat × ByteArray)) (J Jx : List (Nat × ByteArray) → World → Prop)
    (hY : ∀ pre x W, J pre W → pre.length < L.length → YieldAt F (n - 1) Tryz.prog l (encW x) W fun e W' =>
      (e = .returned (.bool true) ∧ J (pre ++ [x]) W' ∧ Below n₀ W W') ∨ (e = .returned (.bool false) ∧ Jx (pre ++ [x]) W'))
    (W0 W : World) (hn0 : W0.heap.size ≤ n₀) (hB : Bn < n₀) (hBn : W.cell? ⟨Bn, 0, none⟩ = some (.pointer (some ⟨p, 0, none⟩))) (hD : Dsk W0 N p sv lv S L) (hL1 : L.length ≤ 1000000000) (h00 : Below W0.heap.size W0 W) (h0 : J [] W) :
    CallsIn F n Tryz.prog 111 #[.func (.yield l) #[] #[], .pointer (some ⟨Bn, 0, none⟩)] W fun e W' => (∃ v, e = .returned v) ∧
      ((∃ ys, ys = L.reverse ∧ J ys W') ∨ (∃ pre, pre <+: L.reverse ∧ Jx pre W')) := by
  refine callsIn_of_wp Tryz.func111 rfl hF ?_ hro
  simp only [Tryz.ntmps111, List.size_toArray, List.length_cons, List.length_nil, Nat.reduceAdd, Nat.reduceSub, Array.replicate_succ, Array.replicate_zero, List.push_toArray, List.append_toArray, List.nil_append, List.cons_append]
  have hD1 := hD.below h00
  have hc1 := hD1.cell1
  obtain ⟨a, cap, rfl, hlc, hcm, hcells⟩ := hD1.lform
  have HC := Lib.hid hcells
  clear hcells
  unfold maxLen at hcm
  gi_wp2
  gi_loopw [3] (fun i wr => ∃ (pre post : List (Nat × ByteArray)), L = post ++ pre.reverse ∧ i = .int .i64 ((post.length : Int) - 1) ∧ J pre wr ∧ Below W0.heap.size W0 wr ∧ wr.cell? ⟨Bn, 0, none⟩ = some (.pointer (some ⟨p, 0, none⟩)))
    (fun i wr => ((intOf i) + 1).toNat)
  case atStart =>
    exact ⟨[], L, by simp, by simp, h0, h00, hBn⟩
  case round =>
    obtain ⟨pre, post, hx, rfl, hJ, hB0, hcB⟩ := hrel
    rcases List.eq_nil_or_concat post with rfl | ⟨post, x, rfl⟩
    · gi_wp2
      go_end0
      exact ⟨⟨_, rfl⟩, .inl ⟨pre, by simp [hx], hJ⟩⟩
    · have hxL : L[post.length]? = some x := by rw [hx]; simp
      have hlen : post.length < L.length := (List.getElem?_eq_some_iff.1 hxL).1
      have hpl : pre.length < L.length := by rw [hx]; simp; omega
      obtain ⟨g, rfl, hw0, hw1⟩ := HC.out post.length x hxL
      have hgW : g < W.heap.size := by have := World.block_lt_of_cell? _ _ hw0; exact this
      have hDr := hD.below hB0
      have hcr := hDr.cell1
      obtain ⟨a', cap', he, _, _, hcells⟩ := hDr.lform
      obtain ⟨g', hg', hr0, hr1⟩ := hcells post.length x hxL
      simp only [Value.slice.injEq] at he
      obtain ⟨e1, _, e3⟩ := he
      subst e1 e3
      cases hg'
      clear hcells hw0 hw1
      obtain ⟨fn, tmps, assign, body, hy, hR⟩ := hY pre x wr hJ hpl
      dsimp only [encW] at hy
      have hi1 : ((post.concat x).length : Int) - 1 = post.length := by simp
      rw [hi1]
      have hi2 : ¬ (post.length : Int) < 0 := by omega
      have hm1 : (post.length : Int) * 2 = ((post.length * 2 : Nat) : Int) := by omega
      have hx2 : L = post ++ (pre ++ [x]).reverse := by rw [hx]; simp
      have HX := Lib.hid hx2
      clear hx hx2
      gi_wp2
      refine hR.mono ?_
      rintro e W3 (⟨rfl, hJ3, hk3⟩ | ⟨rfl, hJx3⟩)
      · have hB3 := hB0.trans (hk3.mono hn0)
        have hq3 : W3.cell? ⟨Bn, 0, none⟩ = some (.pointer (some ⟨p, 0, none⟩)) := (hk3.cell (p := ⟨Bn, 0, none⟩) hB).trans hcB
        gi_wp2
        go_roundw
        case rel => exact ⟨pre ++ [x], post, HX.out, rfl, hJ3, hB3, hq3⟩
        case measure => simp [intOf]
      · gi_wp2
        refine bodyPost_ret (results_none rfl _ _ _) rfl ?_
        exact ⟨⟨_, rfl⟩, .inr ⟨pre ++ [x], ⟨post.reverse, by rw [HX.out]; simp⟩, hJx3⟩⟩

theorem dstops (F : Fence) (n : Nat) (hF : F.fn 111) (hro : F.round = none) (hn : 1 ≤ n) (Bn n₀ N p : Nat) (sv lv : Value) (S : List ByteArray) (L : List (Nat × ByteArray)) (w0 w : World) (hB : Bn < n₀) (hn₀ : w0.heap.size ≤ n₀) (hnw : n₀ ≤ w.heap.size)
    (hc : w.cell? ⟨Bn, 0, none⟩ = some (.pointer (some ⟨p, 0, none⟩))) (hD : Dsk w0 N p sv lv S L) (hL1 : L.length ≤ 1000000000) (h0w : Below w0.heap.size w0 w) :
    SeqStopsK F n Tryz.prog 111 #[.pointer (some ⟨Bn, 0, none⟩)] encW (Below n₀) (fun ys => ys = L.reverse) (fun pre => pre <+: L.reverse) L.length w := fun l J Jx W hW _ _ hY h0 =>
  diter F n hF hro hn l Bn n₀ N p sv lv S L J Jx hY w0 W hn₀ hB ((hW.cell (p := ⟨Bn, 0, none⟩) (by show Bn < _; omega)).trans hc) hD hL1 (h0w.trans (hW.mono (by omega))) h0
end Go.Proofs.YtgnnijpfkgmomaaGreatDoor
/-
  disk.Read of a sector that there is, and of one that there is not.
-/

namespace Go.Proofs.YtgnnijpfkgmomaaGreatDoor
open Go.RowKit Go.Shelf
set_option linter.unusedVariables false
set_option linter.unusedSimpArgs false
attribute [local go_sem] Oper.semAt_some

theorem dread_none (n : Int) (w : World) (N p : Nat) (sv lv : Value) (S : List ByteArray) (L : List (Nat × ByteArray)) (h : Dsk w N p sv lv S L) (hn : ¬ (0 ≤ n ∧ n < S.length)) :
    Calls Tryz.prog 80 #[.pointer (some ⟨p, 0, none⟩), .int .i64 n] w fun e w' => e = .returned (.tuple #[.string ⟨#[]⟩, .int .i64 1]) ∧ Below w.heap.size w w' := by
  have c := fun w' (hb : Below w.heap.size w w') => dhas n w' N p sv lv S L (h.below hb)
  simp only [hn, decide_false] at c
  go_enter Tryz.func80, Tryz.ntmps80
  go_wp2_with fail
  refine Calls.mono (c _ (by go_grown)) ?_
  rintro e w2 ⟨rfl, rfl⟩
  go_wp2_with fail
  go_returns
  exact ⟨rfl, by go_grown⟩

/-- a block that holds a writing -/
def HasW (W : World) (B : Nat) (x : Nat × ByteArray) : Prop := W.heap[B]? = some (.cells #[.int .i64 x.1, .string x.2] 117)
theorem HasW.own {B : Nat} {x : Nat × ByteArray} : Own (fun (_ : Unit) W => HasW W B x) := by
  intro _ X Y row hs hg hrow
  refine (hg.block B (lt_heap hs) fun e' => ?_).trans hs
  obtain ⟨o, ho, hc⟩ := hrow B e'.symm
  rw [show X.heap[B]? = _ from hs] at ho; cases ho; cases hc
theorem HasW.cell0 {W : World} {B : Nat} {x : Nat × ByteArray} (h : HasW W B x) : W.cell? ⟨B, 0, none⟩ = some (.int .i64 x.1) := by simp [World.cell?, show W.heap[B]? = _ from h]
theorem HasW.cell1 {W : World} {B : Nat} {x : Nat × ByteArray} (h : HasW W B x) : W.cell? ⟨B, 1, none⟩ = some (.string x.2) := by simp [World.cell?, show W.heap[B]? = _ from h]

set_option maxRecDepth 100000 in
set_option maxHeartbeats 4000000 in
theorem dread (n : Nat) (w : World) (N p : Nat) (sv lv : Value) (S : List ByteArray) (L : List (Nat × ByteArray)) (h : Dsk w N p sv lv S L) (hn : n < S.length) (hL1 : L.length ≤ 1000000000) :
    Calls Tryz.prog 80 #[.pointer (some ⟨p, 0, none⟩), .int .i64 n] w fun e w' => e = .returned (.tuple #[.string (curD S L n), .int .i64 0]) ∧ Below w.heap.size w w' := by
  have ch := fun w' (hb : Below w.heap.size w w') => dhas n w' N p sv lv S L (h.below hb)
  have hn2 : 0 ≤ (n : Int) ∧ (n : Int) < S.length := ⟨by omega, by omega⟩
  simp only [hn2, and_self, decide_true] at ch
  refine (callsIn_wide (n := 3)).1 ?_
  refine callsIn_of_wp_marks Tryz.func80 rfl trivial ?_ rfl
  simp only [Tryz.ntmps80, List.size_toArray, List.length_cons, List.length_nil, Nat.reduceAdd, Nat.reduceSub, Array.replicate_succ, Array.replicate_zero, List.push_toArray, List.append_toArray, List.nil_append, List.cons_append]
  gi_wp2
  refine ⟨trivial, ?_⟩
  refine (callsIn_wide.2 (ch _ (by go_grown))).mono ?_
  rintro e w' ⟨rfl, rfl⟩
  gi_wp2
  refine ⟨trivial, ?_⟩
  refine (callsIn_wide.2 (dback p _)).mono ?_
  rintro e w' ⟨rfl, rfl⟩
  gi_wp2
  obtain ⟨W0, hW0⟩ : ∃ W0, (((w.alloc (.cells #[.int .i64 n] 3)).alloc (.cells #[.string ⟨#[]⟩] 9)).alloc (.cells #[.int .i64 0] 24)).alloc (.cells #[.pointer (some ⟨p, 0, none⟩)] 23) = W0 := ⟨_, rfl⟩
  have hsz : W0.heap.size = w.heap.size + 4 := by rw [← hW0]; simp
  have hB0 : Below w.heap.size w W0 := by rw [← hW0]; go_grown
  have b0 : Boxed W0 w.heap.size 3 (.int .i64 n) := by rw [← hW0]; exact (((Boxed.new w _ _).alloc _).alloc _).alloc _
  have b1 : Boxed W0 (w.heap.size + 1) 9 (.string ⟨#[]⟩) := by
    have := (((Boxed.new (w.alloc (.cells #[.int .i64 n] 3)) 9 (.string ⟨#[]⟩)).alloc (.cells #[.int .i64 0] 24)).alloc (.cells #[.pointer (some ⟨p, 0, none⟩)] 23))
    rw [hW0] at this; simpa using this
  have b2 : Boxed W0 (w.heap.size + 2) 24 (.int .i64 0) := by
    have := ((Boxed.new ((w.alloc (.cells #[.int .i64 n] 3)).alloc (.cells #[.string ⟨#[]⟩] 9)) 24 (.int .i64 0)).alloc (.cells #[.pointer (some ⟨p, 0, none⟩)] 23))
    rw [hW0] at this; simpa using this
  have b3 : Boxed W0 (w.heap.size + 3) 23 (.pointer (some ⟨p, 0, none⟩)) := by
    have := Boxed.new (((w.alloc (.cells #[.int .i64 n] 3)).alloc (.cells #[.string ⟨#[]⟩] 9)).alloc (.cells #[.int .i64 0] 24)) 23 (.pointer (some ⟨p, 0, none⟩))
    rw [hW0] at this; simpa using this
  rw [hW0]
  clear hW0
  have keep : ∀ {W : World} {B : Nat} {t : TypeId} {v : Value}, Below W0.heap.size W0 W → Boxed W0 B t v → Boxed W B t v := fun hb h => (hb.block _ h.lt).trans h
  refine wpIn_rangeFunc_ownH (F := Fence.wide) rfl (by decide) (gf := 111) (lb := #[.pointer (some ⟨w.heap.size + 1 + 1 + 1, 0, none⟩)]) rfl trivial (enters_of Tryz.func111 (by kernel_rfl) rfl)
    (dstops Fence.wide 2 trivial rfl (by decide) (w.heap.size + 1 + 1 + 1) W0.heap.size N p sv lv S L w W0 (by omega) (by omega) (Nat.le_refl _) b3.cell h hL1 hB0) belowK_t (belowK_b (Nat.le_refl _)) (Below.refl _ _) (fun _ => rfl)
    (fun pre W => (∀ y ∈ pre, y.1 ≠ n) ∧ Below W0.heap.size W0 W)
    (fun c pre W => (c = .ret ∧ ∃ pre' x, pre = pre' ++ [x] ∧ x.1 = n ∧ (∀ y ∈ pre', y.1 ≠ n) ∧ Boxed W (w.heap.size + 1) 9 (.string x.2) ∧ Boxed W (w.heap.size + 2) 24 (.int .i64 0)) ∧ Below w.heap.size w W)
    (OwnFrom.and (ownFrom_pure _ _) (ownFrom_below (Nat.le_refl _) (Nat.le_refl _)))
    (fun c => OwnFrom.and (fun s X Y row hs hg hr => by
      obtain ⟨e, pre', x, e2, e3, e4, e5, e6⟩ := hs
      have hr' : ∀ r, row = some r → ∃ o : Obj, X.heap[r]? = some o ∧ o.isCells = false := fun r e => (hr r e).2
      exact ⟨e, pre', x, e2, e3, e4, boxed_own _ _ (fun (_ : Unit) => Value.string x.2) () X Y row e5 hg hr', boxed_own _ _ (fun (_ : Unit) => Value.int .i64 0) () X Y row e6 hg hr'⟩) (ownFrom_below (Nat.le_refl _) (by omega)))
    ⟨by simp, Below.refl _ _⟩
    (fun x a' W => ∃ Bx, W0.heap.size ≤ Bx ∧ HasW W Bx x ∧ a' = { tmps := #[.pointer (some ⟨p, 0, none⟩), .int .i64 n, undef, .pointer (some ⟨w.heap.size, 0, none⟩), .pointer (some ⟨w.heap.size + 1, 0, none⟩), .pointer (some ⟨w.heap.size + 1 + 1, 0, none⟩), .pointer (some ⟨Bx, 0, none⟩), .pointer (some ⟨p, 0, none⟩), .int .i64 n, .bool true, .bool false, .pointer (some ⟨p, 0, none⟩), .func (.func 111) #[] #[.pointer (some ⟨w.heap.size + 1 + 1 + 1, 0, none⟩)], .agg #[.int .i64 x.1, .string x.2], undef, undef, undef, undef, undef, undef, undef, undef, undef, undef, undef, undef, undef], defers := [] })
    (fun x a' _ X Y row hs hg hr => by obtain ⟨Bx, h1, h2, h3⟩ := hs; exact ⟨Bx, h1, HasW.own () X Y row h2 hg (fun r e => (hr r e).2), h3⟩)
    ?assign ?body ?done ?stop
  case assign =>
    rintro l pre x W K ⟨hp, hb⟩ hK
    simp only [encW]
    gi_wp2
    exact hK _ _ ((KeepsOthers.alloc _ _).from _) ((Below.refl _ W).alloc hb.size _) ⟨hp, hb.alloc hb.size _⟩ ⟨W.heap.size, hb.size, World.alloc_heap_new W _, rfl⟩
  case body =>
    rintro l pre x a' W hl ⟨r, hr⟩ ⟨hp, hb⟩ ⟨Bx, hBx, bX, rfl⟩ hlt
    have c0 := (keep hb b0).cell
    have x0 := bX.cell0
    have x1 := bX.cell1
    have c1 := (keep hb b1).cell
    have f1 := (keep hb b1).frozen
    have c2 := (keep hb b2).cell
    have f2 := (keep hb b2).frozen
    gi_wp2
    · rename_i hx
      have hx2 : x.1 = n := by have := eq_of_beq hx; omega
      have d1 : (w.heap.size + 1) ≠ (w.heap.size + 1 + 1) := by omega
      have z1 := ((keep hb b1).set (.string x.2)).other (B' := w.heap.size + 1 + 1) (by omega) (.int .i64 0)
      have z2 := ((keep hb b2).other (B' := w.heap.size + 1) (by omega) (.string x.2)).set (.int .i64 0)
      exact ⟨((KeepsOthers.setCell _ _ _).trans (KeepsOthers.setCell _ _ _)).from _, ⟨rfl, pre, x, rfl, hx2, hp, z1, z2⟩,
        (((hB0.trans (hb.mono hB0.size)).setCell (p := ⟨w.heap.size + 1, 0, none⟩) (by simp) _).setCell (p := ⟨w.heap.size + 1 + 1, 0, none⟩) (by simp; omega) _)⟩
    · rename_i hx
      have hx2 : x.1 ≠ n := by intro e; subst e; simp at hx
      exact ⟨KeepsFrom.refl _ _, Below.refl _ _, fun y hy => (List.mem_append.1 hy).elim (hp y) (fun e => by simp at e; subst e; exact hx2), hb⟩
  case done =>
    rintro D ys W hD rfl ⟨hp, hb⟩ hK
    have hBW := hB0.trans (hb.mono hB0.size)
    have hDW := h.below hBW
    have c0 := (keep hb b0).cell
    have c1 := (keep hb b1).cell
    have f1 := (keep hb b1).frozen
    have c2 := (keep hb b2).cell
    have f2 := (keep hb b2).frozen
    have hs0 := hDW.cell0
    obtain ⟨g, cap, rfl, hle, hcm, hcells⟩ := hDW.sform (by omega)
    have hcn := hcells n (S.getD n ⟨#[]⟩) (by simp [List.getD_eq_getElem?_getD, List.getElem?_eq_getElem hn])
    have hcur : curD S L n = S.getD n ⟨#[]⟩ := by
      unfold curD
      rw [List.find?_eq_none.2 (fun y hy => by simpa using hp y hy)]
    clear hcells
    unfold maxLen at hcm
    obtain ⟨T, hT⟩ : ∃ T, T = S.getD n ⟨#[]⟩ := ⟨_, rfl⟩
    rw [← hT] at hcn hcur
    have HT := Lib.hid hT
    clear hT
    have hg : g < w.heap.size := h.sure.lt g rfl |>.2
    gi_wp2
    refine wpIn_wide.2 ?_
    go_region
    gi_wp2
    have z1 := ((keep hb b1).set (.string T)).other (B' := w.heap.size + 1 + 1) (by omega) (.int .i64 0)
    have z2 := ((keep hb b2).other (B' := w.heap.size + 1) (by omega) (.string T)).set (.int .i64 0)
    have hK2 := ((KeepsOthers.setCell W ⟨w.heap.size + 1, 0, none⟩ (.string T)).trans (KeepsOthers.setCell _ ⟨w.heap.size + 1 + 1, 0, none⟩ (.int .i64 0))).same D _ hK rfl
    have hB2 := below_drew' ((hBW.setCell (p := ⟨w.heap.size + 1, 0, none⟩) (by simp) (.string T)).setCell (p := ⟨w.heap.size + 1 + 1, 0, none⟩) (by simp; omega) (.int .i64 0))
    obtain ⟨W4, hW4⟩ : ∃ W4, ((W.setCell ⟨w.heap.size + 1, 0, none⟩ (.string T)).setCell ⟨w.heap.size + 1 + 1, 0, none⟩ (.int .i64 0)).drew = W4 := ⟨_, rfl⟩
    have hK3 : W4.heap[D]? = some (.deferred (some [])) := by rw [← hW4]; exact hK2
    have y1 : Boxed W4 (w.heap.size + 1) 9 (.string T) := by rw [← hW4]; exact z1
    have y2 : Boxed W4 (w.heap.size + 1 + 1) 24 (.int .i64 0) := by rw [← hW4]; exact z2
    rw [hW4] at hB2 ⊢
    clear hW4 z1 z2
    refine ⟨by simp, .inl ⟨_, _, rfl, run_takeDeferred hK3, ?_⟩⟩
    have k1 := cell_kept y1.cell (grownBy_putObj' _ D (.deferred none)) (fun r e => by cases e; exact ⟨_, hK3, rfl⟩)
    have k2 := cell_kept y2.cell (grownBy_putObj' _ D (.deferred none)) (fun r e => by cases e; exact ⟨_, hK3, rfl⟩)
    refine ⟨.tuple #[.string T, .int .i64 0], ?_, by rw [hcur], hB2.trans (belowK_b (w := w) (Nat.le_refl _) W4 D _ _ (by omega) hK3 rfl rfl)⟩
    simp [results, Tryz.f80, go_sem, k1, k2]
  case stop =>
    rintro D c pre W hD hpre ⟨⟨rfl, pre', x, rfl, hx, hne, hc1, hc2⟩, hB⟩ hK
    have hcur : curD S L n = x.2 := by
      obtain ⟨t, ht⟩ := hpre
      unfold curD
      rw [← ht, List.append_assoc, List.find?_append, List.find?_eq_none.2 (fun y hy => by simpa using hne y hy)]
      simp [hx]
    gi_wp2
    refine ⟨by simp, .inl ⟨_, _, rfl, run_takeDeferred hK, ?_⟩⟩
    have k1 := cell_kept hc1.cell (grownBy_putObj' _ D (.deferred none)) (fun r e => by cases e; exact ⟨_, hK, rfl⟩)
    have k2 := cell_kept hc2.cell (grownBy_putObj' _ D (.deferred none)) (fun r e => by cases e; exact ⟨_, hK, rfl⟩)
    refine ⟨.tuple #[.string x.2, .int .i64 0], ?_, by rw [hcur], hB.trans (belowK_b (w := w) (Nat.le_refl _) W D _ _ (by omega) hK rfl rfl)⟩
    simp [results, Tryz.f80, go_sem, k1, k2]
end Go.Proofs.YtgnnijpfkgmomaaGreatDoor
