/-
  ExtentsOf's walk.
-/
import Derived.Test.YtoonlhjldkkanaaExtB
namespace Go.Proofs.Ytoonlhjldkkanaa
open Go.RowKit
set_option linter.unusedVariables false
set_option linter.unusedSimpArgs false

theorem ext_prefix {L : List HI} {j : Nat} (hj : j ≤ L.length) (h : ∀ z, L[j]? = some z → NM (extL (L.take j)) z) : ∃ T, extL L = extL (L.take j) ++ T := by
  have e : extL L = (L.drop j).foldl stepE (extL (L.take j)) := by
    unfold extL
    rw [← List.foldl_append, List.take_append_drop]
  rcases Nat.lt_or_ge j L.length with q | q
  · have hd : L.drop j = L[j] :: L.drop (j + 1) := List.drop_eq_getElem_cons q
    rw [hd] at e
    exact ⟨_, e.trans (fold_nm (h _ (List.getElem?_eq_getElem q)))⟩
  · rw [List.drop_eq_nil_of_le q] at e
    exact ⟨[], by rw [List.append_nil]; exact e⟩
/-- a run that began at i -/
def Run (L : List HI) (i : Nat) (x : HI) (j : Nat) (lo hi : Int) : Prop :=
  (Lit.int .u64 lo).wf = true ∧ (Lit.int .u64 hi).wf = true ∧ ((j = i ∧ lo = x.v ∧ hi = x.v) ∨ (i < j ∧ extL (L.take j) = extL (L.take i) ++ [⟨x.b, (j : Int) - i, lo, hi⟩]))
theorem run_next {L : List HI} {i j : Nat} {x y : HI} {lo hi : Int} (h : Run L i x j lo hi) (hx : L[i]? = some x) (hnm : NM (extL (L.take i)) x) (hy : L[j]? = some y) (hb : y.b = x.b + j - i) (hw : (Lit.int .u64 y.v).wf = true) : Run L i x (j + 1) (min lo y.v) (max hi y.v) := by
  obtain ⟨h1, h2, h3⟩ := h
  refine ⟨?_, ?_, .inr ?_⟩
  · rcases Int.le_total lo y.v with q | q
    · rw [Int.min_eq_left q]; exact h1
    · rw [Int.min_eq_right q]; exact hw
  · rcases Int.le_total hi y.v with q | q
    · rw [Int.max_eq_right q]; exact hw
    · rw [Int.max_eq_left q]; exact h2
  · rcases h3 with ⟨rfl, rfl, rfl⟩ | ⟨q, e⟩
    · rw [hx] at hy
      obtain rfl := Option.some.inj hy
      refine ⟨by omega, ?_⟩
      rw [ext_take hx, step_nm hnm, show min x.v x.v = x.v by omega, show max x.v x.v = x.v by omega]
      unfold newE
      rw [show (((j + 1 : Nat) : Int) - j) = 1 by omega]
    · refine ⟨by omega, ?_⟩
      rw [ext_take hy, e, step_join (by show x.b + ((j : Int) - i) = y.b; omega)]
      unfold grow
      rw [show (((j + 1 : Nat) : Int) - i) = (j : Int) - i + 1 by omega]
theorem run_end {L : List HI} {i j : Nat} {x : HI} {lo hi : Int} (h : Run L i x j lo hi) (hx : L[i]? = some x) (hj : j ≤ L.length) (he : ∀ y, L[j]? = some y → ¬ y.b = x.b + j - i) :
    i < j ∧ extL (L.take j) = extL (L.take i) ++ [⟨x.b, (j : Int) - i, lo, hi⟩] ∧ (∀ z, L[j]? = some z → NM (extL (L.take j)) z) ∧ (extL L)[(extL (L.take i)).length]? = some ⟨x.b, (j : Int) - i, lo, hi⟩ := by
  obtain ⟨-, -, h3⟩ := h
  rcases h3 with ⟨rfl, rfl, rfl⟩ | ⟨q, e⟩
  · exact absurd (show x.b = x.b + j - j by omega) (he x hx)
  · have hnm : ∀ z, L[j]? = some z → NM (extL (L.take j)) z := fun z hz A e2 h2 h3 => by
      rw [e] at h2
      obtain ⟨_, h4⟩ := List.append_inj' h2 rfl
      injection h4 with h4
      subst h4
      exact he z hz (by have : x.b + ((j : Int) - i) = z.b := h3; omega)
    refine ⟨q, e, hnm, ?_⟩
    obtain ⟨T, hT⟩ := ext_prefix hj hnm
    rw [hT, e, List.append_assoc, List.getElem?_append_right (Nat.le_refl _), Nat.sub_self]
    rfl
theorem extkey : Try.prog.keyTypeAt 4 88 = true := by kernel_rfl
theorem extguard : Try.prog.eqGuardType Try.prog.depth 88 = false := by kernel_rfl
theorem ext_formed (f n a b : Int) : (Value.agg #[.int .i64 f, .int .i64 n, .int .u64 a, .int .u64 b]).formed Try.prog 88 = true := by kernel_rfl
theorem ext_lits (f n a b : Int) (hf : (Lit.int .i64 f).wf = true) (hn : (Lit.int .i64 n).wf = true) (ha : (Lit.int .u64 a).wf = true) (hb : (Lit.int .u64 b).wf = true) :
    Try.prog.keyLits 4 88 [.int .i64 f, .int .i64 n, .int .u64 a, .int .u64 b] = some [.int .i64 f, .int .i64 n, .int .u64 a, .int .u64 b] := by
  have c0 : Try.prog.cellsOf 88 = 4 := by kernel_rfl
  have c2 : Try.prog.cellsOf 22 = 1 := by kernel_rfl
  have c3 : Try.prog.cellsOf 3 = 1 := by kernel_rfl
  simp [Program.keyLits, Try.underlying88, Try.underlying3, Try.underlying22, c0, c2, c3, hf, hn, ha, hb]
theorem ext_neq (f n a b : Int) (hf : (Lit.int .i64 f).wf = true) (hn : (Lit.int .i64 n).wf = true) (ha : (Lit.int .u64 a).wf = true) (hb : (Lit.int .u64 b).wf = true) (w : World) :
    (binOp .neq 88 (.agg #[.int .i64 f, .int .i64 n, .int .u64 a, .int .u64 b]) (.agg #[.int .i64 f, .int .i64 n, .int .u64 a, .int .u64 b])).run Try.prog w = .ok (.bool false) w :=
  (eq_deep (m := 4) (D := 4) (D' := 4) extkey (by decide) (ext_formed _ _ _ _) (ext_formed _ _ _ _) (ext_lits _ _ _ _ hf hn ha hb) (ext_lits _ _ _ _ hf hn ha hb) true (by simp) w).2
def l48 : List HI := [⟨1, 0, ⟨#[]⟩⟩, ⟨2, 0, ⟨#[]⟩⟩, ⟨4, 0, ⟨#[]⟩⟩]
theorem l48_srt : Srt l48 := ⟨by simp [l48], fun x hx => by
  simp only [l48, List.mem_cons, List.not_mem_nil, or_false] at hx
  rcases hx with rfl | rfl | rfl <;> exact ⟨by decide, by decide, by decide, by decide⟩⟩
theorem l48_of : extL (putAll [] l48) = [⟨1, 2, 0, 0⟩, ⟨4, 1, 0, 0⟩] := by
  rw [of_self l48_srt (fun x hx => by
    simp only [l48, List.mem_cons, List.not_mem_nil, or_false] at hx
    rcases hx with rfl | rfl | rfl <;> exact mB_none 0)]
  rfl
set_option maxHeartbeats 1600000 in
set_option maxRecDepth 100000 in
theorem awake48 (w : World) : Calls Try.prog 58 #[] w fun e w' => e = .returned (.bool true) ∧ Below w.heap.size w w' := by
  have hl : SR (w.alloc (.cells #[.int .i64 1, .int .u64 0, .string ⟨#[]⟩, .int .i64 2, .int .u64 0, .string ⟨#[]⟩, .int .i64 4, .int .u64 0, .string ⟨#[]⟩] 58)) (.slice (some ⟨w.heap.size, 0, none⟩) 3 3) 3 l48.length (hCells l48) := SR.lit w 58 #[.int .i64 1, .int .u64 0, .string ⟨#[]⟩, .int .i64 2, .int .u64 0, .string ⟨#[]⟩, .int .i64 4, .int .u64 0, .string ⟨#[]⟩] 3 3 (by decide) rfl
  have hb0 := (Below.refl w.heap.size w).alloc (Nat.le_refl _) (.cells #[.int .i64 1, .int .u64 0, .string ⟨#[]⟩, .int .i64 2, .int .u64 0, .string ⟨#[]⟩, .int .i64 4, .int .u64 0, .string ⟨#[]⟩] 58)
  have c1 := ext_of l48 l48_srt.ok _ _ hl
  rw [l48_of] at c1
  have HB := Lib.hid hb0
  clear hl hb0
  go_enter Try.func58, Try.ntmps58
  go_wp2_with fail
  refine Calls.mono c1 ?_
  rintro e w2 ⟨v2, rfl, hr2, hb2⟩
  have hr2' : SR w2 v2 4 2 (eCells [⟨1, 2, 0, 0⟩, ⟨4, 1, 0, 0⟩]) := hr2
  have c2 := fun w' hb => ext_blocks [⟨1, 2, 0, 0⟩, ⟨4, 1, 0, 0⟩] (by intro e he; simp only [List.mem_cons, List.not_mem_nil, or_false] at he; rcases he with rfl | rfl <;> decide) (by decide) w' v2 (hr2.below (w' := w') hb)
  rw [show sumE [⟨1, 2, 0, 0⟩, ⟨4, 1, 0, 0⟩] = 3 from rfl] at c2
  obtain ⟨a2, k2, rfl, -, -⟩ := hr2'.form
  obtain ⟨b, off, rfl, -, c0, d1, -, -⟩ := sr_ext hr2' 0 _ rfl
  obtain ⟨b', off', e', -, d0, -, -, -⟩ := sr_ext hr2' 1 _ rfl
  injection e' with e'
  injection e' with q1 q2
  subst q1 q2
  have d1' : w2.cell? ⟨b, off + 1, none⟩ = some (.int .i64 2) := by simpa using d1
  have d0' : w2.cell? ⟨b, off + 4, none⟩ = some (.int .i64 4) := by simpa using d0
  have HB2 := Lib.hid (HB.out.trans (hb2.mono HB.out.size))
  clear hr2 hr2' hb2 c1 c0 d0 d1
  go_wp2_with fail
  refine Calls.mono (c2 _ (Below.refl _ _)) ?_
  rintro e w3 ⟨rfl, hb3⟩
  have HB3 := Lib.hid (HB2.out.trans (hb3.mono HB2.out.size))
  clear hb3 c2
  go_wp2_with fail
  go_ret
  exact ⟨rfl, HB3.out⟩
end Go.Proofs.Ytoonlhjldkkanaa
