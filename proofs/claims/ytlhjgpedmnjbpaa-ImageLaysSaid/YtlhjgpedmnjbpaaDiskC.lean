/-
  disk.Read: a range over a function that goes over the writings, the last one first.
-/
import Derived.Test.YtlhjgpedmnjbpaaDiskB
import Derived.RangeFuncNested
import Derived.RangeFuncBound
import Derived.RangeFuncCalls
import Derived.RangeFuncLeaves
import Derived.Shelf.Abstract
import Derived.Shelf.RegionOpen
import Derived.OwnWalkIn
import Derived.TacticsInMore
import Derived.LoopNIn
import Derived.LoopIn
namespace Go.Proofs.Ytlhjgpedmnjbpaa
open Go.RowKit Go.Shelf
set_option linter.unusedVariables false
set_option linter.unusedSimpArgs false
attribute [local go_sem] Oper.semAt_some

/-- what a reading finds -/
def curD (S : List ByteArray) (L : List (Nat × ByteArray)) (at' : Nat) : ByteArray :=
  match L.reverse.find? (fun x => x.1 == at') with
  | some x => x.2
  | none => S.getD at' ⟨#[]⟩
def encW (x : Nat × ByteArray) : Array Value := #[.agg #[.int .i64 x.1, .string x.2]]

set_option maxRecDepth 100000 in
set_option maxHeartbeats 2000000 in
theorem diter (F : Fence) (n : Nat) (hF : F.fn 151) (hro : F.round = none) (hn : 1 ≤ n) (l Bn n₀ N p : Nat) (sv lv : Value) (S : List ByteArray) (L : List (Nat × ByteArray)) (J Jx : List (Nat × ByteArray) → World → Prop)
    (hY : ∀ pre x W, J pre W → pre.length < L.length → YieldAt F (n - 1) Try.prog l (encW x) W fun e W' =>
      (e = .returned (.bool true) ∧ J (pre ++ [x]) W' ∧ Below n₀ W W') ∨ (e = .returned (.bool false) ∧ Jx (pre ++ [x]) W'))
    (W0 W : World) (hn0 : W0.heap.size ≤ n₀) (hB : Bn < n₀) (hBn : W.cell? ⟨Bn, 0, none⟩ = some (.pointer (some ⟨p, 0, none⟩))) (hD : Dsk W0 N p sv lv S L) (hL1 : L.length ≤ 1000000000) (h00 : Below W0.heap.size W0 W) (h0 : J [] W) :
    CallsIn F n Try.prog 151 #[.func (.yield l) #[] #[], .pointer (some ⟨Bn, 0, none⟩)] W fun e W' => (∃ v, e = .returned v) ∧
      ((∃ ys, ys = L.reverse ∧ J ys W') ∨ (∃ pre, pre <+: L.reverse ∧ Jx pre W')) := by
  refine callsIn_of_wp Try.func151 rfl hF ?_ hro
  simp only [Try.ntmps151, List.size_toArray, List.length_cons, List.length_nil, Nat.reduceAdd, Nat.reduceSub, Array.replicate_succ, Array.replicate_zero, List.push_toArray, List.append_toArray, List.nil_append, List.cons_append]
  have hD1 := hD.below h00
  have hc1 := hD1.cell1
  obtain ⟨a, cap, rfl, hlc, hcm, hcells⟩ := hD1.lform
  have HC := Lib.hid hcells
  clear hcells
  unfold maxLen at hcm
  gi_wp2
  gi_loopw [3] (fun i wr => ∃ (pre post : List (Nat × ByteArray)), L = post ++ pre.reverse ∧ i = .int .i64 ((post.length : Int) - 1) ∧ J pre wr ∧ Below W0.heap.size W0 wr ∧ wr.cell? ⟨Bn, 0, none⟩ = some (.pointer (some ⟨p, 0, none⟩)))
    (fun i wr => ((intOf i) + 1).toNat)
  case atStart =>
    exact ⟨[], L, by simp, by simp, h0, h00, hBn⟩
  case round =>
    obtain ⟨pre, post, hx, rfl, hJ, hB0, hcB⟩ := hrel
    rcases List.eq_nil_or_concat post with rfl | ⟨post, x, rfl⟩
    · gi_wp2
      go_end0
      exact ⟨⟨_, rfl⟩, .inl ⟨pre, by simp [hx], hJ⟩⟩
    · have hxL : L[post.length]? = some x := by rw [hx]; simp
      have hlen : post.length < L.length := (List.getElem?_eq_some_iff.1 hxL).1
      have hpl : pre.length < L.length := by rw [hx]; simp; omega
      obtain ⟨g, rfl, hw0, hw1⟩ := HC.out post.length x hxL
      have hgW : g < W.heap.size := by have := World.block_lt_of_cell? _ _ hw0; exact this
      have hDr := hD.below hB0
      have hcr := hDr.cell1
      obtain ⟨a', cap', he, _, _, hcells⟩ := hDr.lform
      obtain ⟨g', hg', hr0, hr1⟩ := hcells post.length x hxL
      simp only [Value.slice.injEq] at he
      obtain ⟨e1, _, e3⟩ := he
      subst e1 e3
      cases hg'
      clear hcells hw0 hw1
      obtain ⟨fn, tmps, assign, body, hy, hR⟩ := hY pre x wr hJ hpl
      dsimp only [encW] at hy
      have hi1 : ((post.concat x).length : Int) - 1 = post.length := by simp
      rw [hi1]
      have hi2 : ¬ (post.length : Int) < 0 := by omega
      have hm1 : (post.length : Int) * 2 = ((post.length * 2 : Nat) : Int) := by omega
      have hx2 : L = post ++ (pre ++ [x]).reverse := by rw [hx]; simp
      have HX := Lib.hid hx2
      clear hx hx2
      gi_wp2
      refine hR.mono ?_
      rintro e W3 (⟨rfl, hJ3, hk3⟩ | ⟨rfl, hJx3⟩)
      · have hB3 := hB0.trans (hk3.mono hn0)
        have hq3 : W3.cell? ⟨Bn, 0, none⟩ = some (.pointer (some ⟨p, 0, none⟩)) := (hk3.cell (p := ⟨Bn, 0, none⟩) hB).trans hcB
        gi_wp2
        go_roundw
        case rel => exact ⟨pre ++ [x], post, HX.out, rfl, hJ3, hB3, hq3⟩
        case measure => simp [intOf]
      · gi_wp2
        refine bodyPost_ret (results_none rfl _ _ _) rfl ?_
        exact ⟨⟨_, rfl⟩, .inr ⟨pre ++ [x], ⟨post.reverse, by rw [HX.out]; simp⟩, hJx3⟩⟩

theorem dstops (F : Fence) (n : Nat) (hF : F.fn 151) (hro : F.round = none) (hn : 1 ≤ n) (Bn n₀ N p : Nat) (sv lv : Value) (S : List ByteArray) (L : List (Nat × ByteArray)) (w0 w : World) (hB : Bn < n₀) (hn₀ : w0.heap.size ≤ n₀) (hnw : n₀ ≤ w.heap.size)
    (hc : w.cell? ⟨Bn, 0, none⟩ = some (.pointer (some ⟨p, 0, none⟩))) (hD : Dsk w0 N p sv lv S L) (hL1 : L.length ≤ 1000000000) (h0w : Below w0.heap.size w0 w) :
    SeqStopsK F n Try.prog 151 #[.pointer (some ⟨Bn, 0, none⟩)] encW (Below n₀) (fun ys => ys = L.reverse) (fun pre => pre <+: L.reverse) L.length w := fun l J Jx W hW _ _ hY h0 =>
  diter F n hF hro hn l Bn n₀ N p sv lv S L J Jx hY w0 W hn₀ hB ((hW.cell (p := ⟨Bn, 0, none⟩) (by show Bn < _; omega)).trans hc) hD hL1 (h0w.trans (hW.mono (by omega))) h0
end Go.Proofs.Ytlhjgpedmnjbpaa
