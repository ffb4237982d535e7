/-
  Several texts, laid together.
-/
import Derived.Test.YtadejhlljdcocaaMg29
import Derived.StillTailTactics
/-
  ExtentsOf's walk.
-/

namespace Go.Proofs.Ytadejhlljdcocaa
open Go.RowKit
set_option linter.unusedVariables false
set_option linter.unusedSimpArgs false

theorem ext_prefix {L : List HI} {j : Nat} (hj : j ≤ L.length) (h : ∀ z, L[j]? = some z → NM (extL (L.take j)) z) : ∃ T, extL L = extL (L.take j) ++ T := by
  have e : extL L = (L.drop j).foldl stepE (extL (L.take j)) := by
    unfold extL
    rw [← List.foldl_append, List.take_append_drop]
  rcases Nat.lt_or_ge j L.length with q | q
  · have hd : L.drop j = L[j] :: L.drop (j + 1) := List.drop_eq_getElem_cons q
    rw [hd] at e
    exact ⟨_, e.trans (fold_nm (h _ (List.getElem?_eq_getElem q)))⟩
  · rw [List.drop_eq_nil_of_le q] at e
    exact ⟨[], by rw [List.append_nil]; exact e⟩
/-- a run that began at i -/
def Run (L : List HI) (i : Nat) (x : HI) (j : Nat) (lo hi : Int) : Prop :=
  (Lit.int .u64 lo).wf = true ∧ (Lit.int .u64 hi).wf = true ∧ ((j = i ∧ lo = x.v ∧ hi = x.v) ∨ (i < j ∧ extL (L.take j) = extL (L.take i) ++ [⟨x.b, (j : Int) - i, lo, hi⟩]))
theorem run_next {L : List HI} {i j : Nat} {x y : HI} {lo hi : Int} (h : Run L i x j lo hi) (hx : L[i]? = some x) (hnm : NM (extL (L.take i)) x) (hy : L[j]? = some y) (hb : y.b = x.b + j - i) (hw : (Lit.int .u64 y.v).wf = true) : Run L i x (j + 1) (min lo y.v) (max hi y.v) := by
  obtain ⟨h1, h2, h3⟩ := h
  refine ⟨?_, ?_, .inr ?_⟩
  · rcases Int.le_total lo y.v with q | q
    · rw [Int.min_eq_left q]; exact h1
    · rw [Int.min_eq_right q]; exact hw
  · rcases Int.le_total hi y.v with q | q
    · rw [Int.max_eq_right q]; exact hw
    · rw [Int.max_eq_left q]; exact h2
  · rcases h3 with ⟨rfl, rfl, rfl⟩ | ⟨q, e⟩
    · rw [hx] at hy
      obtain rfl := Option.some.inj hy
      refine ⟨by omega, ?_⟩
      rw [ext_take hx, step_nm hnm, show min x.v x.v = x.v by omega, show max x.v x.v = x.v by omega]
      unfold newE
      rw [show (((j + 1 : Nat) : Int) - j) = 1 by omega]
    · refine ⟨by omega, ?_⟩
      rw [ext_take hy, e, step_join (by show x.b + ((j : Int) - i) = y.b; omega)]
      unfold grow
      rw [show (((j + 1 : Nat) : Int) - i) = (j : Int) - i + 1 by omega]
theorem run_end {L : List HI} {i j : Nat} {x : HI} {lo hi : Int} (h : Run L i x j lo hi) (hx : L[i]? = some x) (hj : j ≤ L.length) (he : ∀ y, L[j]? = some y → ¬ y.b = x.b + j - i) :
    i < j ∧ extL (L.take j) = extL (L.take i) ++ [⟨x.b, (j : Int) - i, lo, hi⟩] ∧ (∀ z, L[j]? = some z → NM (extL (L.take j)) z) ∧ (extL L)[(extL (L.take i)).length]? = some ⟨x.b, (j : Int) - i, lo, hi⟩ := by
  obtain ⟨-, -, h3⟩ := h
  rcases h3 with ⟨rfl, rfl, rfl⟩ | ⟨q, e⟩
  · exact absurd (show x.b = x.b + j - j by omega) (he x hx)
  · have hnm : ∀ z, L[j]? = some z → NM (extL (L.take j)) z := fun z hz A e2 h2 h3 => by
      rw [e] at h2
      obtain ⟨_, h4⟩ := List.append_inj' h2 rfl
      injection h4 with h4
      subst h4
      exact he z hz (by have : x.b + ((j : Int) - i) = z.b := h3; omega)
    refine ⟨q, e, hnm, ?_⟩
    obtain ⟨T, hT⟩ := ext_prefix hj hnm
    rw [hT, e, List.append_assoc, List.getElem?_append_right (Nat.le_refl _), Nat.sub_self]
    rfl
theorem extkey : Try.prog.keyTypeAt 4 130 = true := by kernel_rfl
theorem extguard : Try.prog.eqGuardType Try.prog.depth 130 = false := by kernel_rfl
theorem ext_formed (f n a b : Int) : (Value.agg #[.int .i64 f, .int .i64 n, .int .u64 a, .int .u64 b]).formed Try.prog 130 = true := by kernel_rfl
theorem ext_lits (f n a b : Int) (hf : (Lit.int .i64 f).wf = true) (hn : (Lit.int .i64 n).wf = true) (ha : (Lit.int .u64 a).wf = true) (hb : (Lit.int .u64 b).wf = true) :
    Try.prog.keyLits 4 130 [.int .i64 f, .int .i64 n, .int .u64 a, .int .u64 b] = some [.int .i64 f, .int .i64 n, .int .u64 a, .int .u64 b] := by
  have c0 : Try.prog.cellsOf 130 = 4 := by kernel_rfl
  have c2 : Try.prog.cellsOf 68 = 1 := by kernel_rfl
  have c3 : Try.prog.cellsOf 3 = 1 := by kernel_rfl
  simp [Program.keyLits, Try.underlying130, Try.underlying3, Try.underlying68, c0, c2, c3, hf, hn, ha, hb]
theorem ext_neq (f n a b : Int) (hf : (Lit.int .i64 f).wf = true) (hn : (Lit.int .i64 n).wf = true) (ha : (Lit.int .u64 a).wf = true) (hb : (Lit.int .u64 b).wf = true) (w : World) :
    (binOp .neq 130 (.agg #[.int .i64 f, .int .i64 n, .int .u64 a, .int .u64 b]) (.agg #[.int .i64 f, .int .i64 n, .int .u64 a, .int .u64 b])).run Try.prog w = .ok (.bool false) w :=
  (eq_deep (m := 4) (D := 4) (D' := 4) extkey (by decide) (ext_formed _ _ _ _) (ext_formed _ _ _ _) (ext_lits _ _ _ _ hf hn ha hb) (ext_lits _ _ _ _ hf hn ha hb) true (by simp) w).2
def l48 : List HI := [⟨1, 0, ⟨#[]⟩⟩, ⟨2, 0, ⟨#[]⟩⟩, ⟨4, 0, ⟨#[]⟩⟩]
theorem l48_srt : Srt l48 := ⟨by simp [l48], fun x hx => by
  simp only [l48, List.mem_cons, List.not_mem_nil, or_false] at hx
  rcases hx with rfl | rfl | rfl <;> exact ⟨by decide, by decide, by decide, by decide⟩⟩
theorem l48_of : extL (putAll [] l48) = [⟨1, 2, 0, 0⟩, ⟨4, 1, 0, 0⟩] := by
  rw [of_self l48_srt (fun x hx => by
    simp only [l48, List.mem_cons, List.not_mem_nil, or_false] at hx
    rcases hx with rfl | rfl | rfl <;> exact mB_none 0)]
  rfl
set_option maxHeartbeats 1600000 in
set_option maxRecDepth 100000 in
theorem awake48 (w : World) : Calls Try.prog 67 #[] w fun e w' => e = .returned (.bool true) ∧ Below w.heap.size w w' := by
  have hl : SR (w.alloc (.cells #[.int .i64 1, .int .u64 0, .string ⟨#[]⟩, .int .i64 2, .int .u64 0, .string ⟨#[]⟩, .int .i64 4, .int .u64 0, .string ⟨#[]⟩] 125)) (.slice (some ⟨w.heap.size, 0, none⟩) 3 3) 3 l48.length (hCells l48) := SR.lit w 125 #[.int .i64 1, .int .u64 0, .string ⟨#[]⟩, .int .i64 2, .int .u64 0, .string ⟨#[]⟩, .int .i64 4, .int .u64 0, .string ⟨#[]⟩] 3 3 (by decide) rfl
  have hb0 := (Below.refl w.heap.size w).alloc (Nat.le_refl _) (.cells #[.int .i64 1, .int .u64 0, .string ⟨#[]⟩, .int .i64 2, .int .u64 0, .string ⟨#[]⟩, .int .i64 4, .int .u64 0, .string ⟨#[]⟩] 125)
  have c1 := ext_of l48 l48_srt.ok _ _ hl
  rw [l48_of] at c1
  have HB := Lib.hid hb0
  clear hl hb0
  go_enter Try.func67, Try.ntmps67
  go_wp2_with fail
  refine Calls.mono c1 ?_
  rintro e w2 ⟨v2, rfl, hr2, hb2⟩
  have hr2' : SR w2 v2 4 2 (eCells [⟨1, 2, 0, 0⟩, ⟨4, 1, 0, 0⟩]) := hr2
  have c2 := fun w' hb => ext_blocks [⟨1, 2, 0, 0⟩, ⟨4, 1, 0, 0⟩] (by intro e he; simp only [List.mem_cons, List.not_mem_nil, or_false] at he; rcases he with rfl | rfl <;> decide) (by decide) w' v2 (hr2.below (w' := w') hb)
  rw [show sumE [⟨1, 2, 0, 0⟩, ⟨4, 1, 0, 0⟩] = 3 from rfl] at c2
  obtain ⟨a2, k2, rfl, -, -⟩ := hr2'.form
  obtain ⟨b, off, rfl, -, c0, d1, -, -⟩ := sr_ext hr2' 0 _ rfl
  obtain ⟨b', off', e', -, d0, -, -, -⟩ := sr_ext hr2' 1 _ rfl
  injection e' with e'
  injection e' with q1 q2
  subst q1 q2
  have d1' : w2.cell? ⟨b, off + 1, none⟩ = some (.int .i64 2) := by simpa using d1
  have d0' : w2.cell? ⟨b, off + 4, none⟩ = some (.int .i64 4) := by simpa using d0
  have HB2 := Lib.hid (HB.out.trans (hb2.mono HB.out.size))
  clear hr2 hr2' hb2 c1 c0 d0 d1
  go_wp2_with fail
  refine Calls.mono (c2 _ (Below.refl _ _)) ?_
  rintro e w3 ⟨rfl, hb3⟩
  have HB3 := Lib.hid (HB2.out.trans (hb3.mono HB2.out.size))
  clear hb3 c2
  go_wp2_with fail
  go_ret
  exact ⟨rfl, HB3.out⟩
end Go.Proofs.Ytadejhlljdcocaa
/-
  What Rising compares items by; rows of items that are sorted in place.
-/


namespace Go.Proofs.Ytadejhlljdcocaa
open Go.RowKit
set_option linter.unusedVariables false
set_option linter.unusedSimpArgs false

theorem nan_u64 (x : Int) (w : World) : Calls Try.prog 158 #[.int .u64 x] w fun e w' => e = .returned (.bool false) ∧ w = w' := by
  go_enter Try.func158, Try.ntmps158
  go_wp2_with fail
  go_ret
  exact ⟨by simp, rfl⟩
theorem compare_u64 (x y : Int) (w : World) : Calls Try.prog 119 #[.int .u64 x, .int .u64 y] w fun e w' => e = .returned (.int .i64 (cmpI x y)) ∧ w = w' := by
  unfold cmpI
  have c1 := nan_u64 x
  have c2 := nan_u64 y
  by_cases h1 : x < y
  · have h2 : ¬ y < x := by omega
    rw [if_pos h1]
    go_enter Try.func119, Try.ntmps119
    go_wp2_with fail
    refine Calls.mono (c1 _) ?_
    rintro e w1 ⟨rfl, rfl⟩
    go_wp2_with fail
    refine Calls.mono (c2 _) ?_
    rintro e w1 ⟨rfl, rfl⟩
    go_wp2_with fail
    go_ret
    exact ⟨rfl, rfl⟩
  · rw [if_neg h1]
    by_cases h2 : y < x
    · rw [if_pos h2]
      go_enter Try.func119, Try.ntmps119
      go_wp2_with fail
      refine Calls.mono (c1 _) ?_
      rintro e w1 ⟨rfl, rfl⟩
      go_wp2_with fail
      refine Calls.mono (c2 _) ?_
      rintro e w1 ⟨rfl, rfl⟩
      go_wp2_with fail
      go_ret
      exact ⟨rfl, rfl⟩
    · rw [if_neg h2]
      go_enter Try.func119, Try.ntmps119
      go_wp2_with fail
      refine Calls.mono (c1 _) ?_
      rintro e w1 ⟨rfl, rfl⟩
      go_wp2_with fail
      refine Calls.mono (c2 _) ?_
      rintro e w1 ⟨rfl, rfl⟩
      go_wp2_with fail
      go_ret
      exact ⟨rfl, rfl⟩
set_option maxHeartbeats 1600000 in
theorem or_two (x y : Int) (w : World) (b : Nat) (h0 : w.cell? ⟨b, 0, none⟩ = some (.int .i64 x)) (h1 : w.cell? ⟨b, 1, none⟩ = some (.int .i64 y)) :
    Calls Try.prog 118 #[.slice (some ⟨b, 0, none⟩) 2 2] w fun e w' => e = .returned (.int .i64 (if x ≠ 0 then x else y)) ∧ w = w' := by
  obtain ⟨Z, hZ⟩ : ∃ Z, (if x ≠ 0 then x else y) = Z := ⟨_, rfl⟩
  rw [hZ]
  have HZ := Lib.hid hZ
  clear hZ
  go_enter Try.func118, Try.ntmps118
  go_wp2_with fail
  go_loopw [8] (fun i wr => wr = w ∧ (i = .int .i64 0 ∨ (i = .int .i64 1 ∧ Hid (x = 0)) ∨ (i = .int .i64 2 ∧ Hid (x = 0) ∧ Hid (y = 0)))) (fun i _ => 2 - (intOf i).toNat)
  case atStart => exact ⟨rfl, .inl rfl⟩
  case round =>
    obtain ⟨rfl, rfl | ⟨rfl, hx⟩ | ⟨rfl, hx, hy⟩⟩ := hrel
    · by_cases hx : x = 0
      · have hx1 : (x != 0) = false := by simp [hx]
        have HX := Lib.hid hx
        clear hx
        go_wp2_with fail
        go_roundw
        case rel => exact ⟨trivial, .inr (.inl ⟨rfl, HX⟩)⟩
        case measure => simp [intOf]
      · have hx1 : (x != 0) = true := by simp [hx]
        go_wp2_with fail
        go_ret
        exact ⟨by rw [← HZ.out, if_pos hx]; rfl, rfl⟩
    · by_cases hy : y = 0
      · have hy1 : (y != 0) = false := by simp [hy]
        have HY := Lib.hid hy
        clear hy
        go_wp2_with fail
        go_roundw
        case rel => exact ⟨trivial, .inr (.inr ⟨rfl, hx, HY⟩)⟩
        case measure => simp [intOf]
      · have hy1 : (y != 0) = true := by simp [hy]
        go_wp2_with fail
        go_ret
        exact ⟨by rw [← HZ.out, if_neg (fun q => q hx.out)]; rfl, rfl⟩
    · go_wp2_with fail
      go_ret
      exact ⟨by rw [← HZ.out, if_neg (fun q => q hx.out), hy.out]; rfl, rfl⟩
set_option maxHeartbeats 1600000 in
set_option maxRecDepth 100000 in
theorem rise_clos (x y : HI) (w : World) : Calls Try.prog 117 #[.agg #[.int .i64 x.b, .int .u64 x.v, .string x.d], .agg #[.int .i64 y.b, .int .u64 y.v, .string y.d]] w fun e w' => e = .returned (.int .i64 (cmpV x y)) ∧ Below w.heap.size w w' := by
  have hx0 := heap_alloc_self w (.cells #[.int .i64 x.b, .int .u64 x.v, .string x.d] 125)
  have hb0 := (Below.refl w.heap.size w).alloc (Nat.le_refl _) (.cells #[.int .i64 x.b, .int .u64 x.v, .string x.d] 125)
  have hz : (w.alloc (.cells #[.int .i64 x.b, .int .u64 x.v, .string x.d] 125)).heap.size = w.heap.size + 1 := by simp
  have hy := heap_alloc_self (w.alloc (.cells #[.int .i64 x.b, .int .u64 x.v, .string x.d] 125)) (.cells #[.int .i64 y.b, .int .u64 y.v, .string y.d] 125)
  have hx := (Below.heap_alloc _ (.cells #[.int .i64 y.b, .int .u64 y.v, .string y.d] 125) _ (lt_heap hx0)).trans hx0
  have hb := hb0.alloc (by simp) (.cells #[.int .i64 y.b, .int .u64 y.v, .string y.d] 125)
  have hz2 : ((w.alloc (.cells #[.int .i64 x.b, .int .u64 x.v, .string x.d] 125)).alloc (.cells #[.int .i64 y.b, .int .u64 y.v, .string y.d] 125)).heap.size = w.heap.size + 2 := by simp
  rw [hz] at hy
  clear hx0 hb0 hz
  obtain ⟨V, hV⟩ : ∃ V, cmpV x y = V := ⟨_, rfl⟩
  rw [hV]
  obtain ⟨C, hC⟩ : ∃ C, w.heap.size = C := ⟨_, rfl⟩
  rw [hC]
  go_enter Try.func117, Try.ntmps117
  go_upto_region 1 with fail
  generalize (w.alloc (.cells #[.int .i64 x.b, .int .u64 x.v, .string x.d] 125)).alloc (.cells #[.int .i64 y.b, .int .u64 y.v, .string y.d] 125) = w1 at *
  rw [hC] at hx hy hb hz2
  obtain ⟨B, hB⟩ : ∃ B, C + 1 = B := ⟨_, rfl⟩
  rw [hB] at hy
  obtain ⟨d0, d1, d2⟩ := held_at hx
  obtain ⟨e0, e1, e2⟩ := held_at hy
  obtain ⟨N, hN⟩ : ∃ N, w1.heap.size = N := ⟨_, rfl⟩
  have hbN : B < N := by omega
  have hcN : C < N := by omega
  have HB := Lib.hid hb
  try simp only [hC]
  try simp only [hB]
  clear hx hy hb hz2
  have hks := keeps_start hN
  have cu := compare_u64 x.v y.v
  have ci := compare_int x.b y.b
  obtain ⟨X, hX⟩ : ∃ X, cmpI x.v y.v = X := ⟨_, rfl⟩
  obtain ⟨Y, hY⟩ : ∃ Y, cmpI x.b y.b = Y := ⟨_, rfl⟩
  rw [hX] at cu
  rw [hY] at ci
  have HV := Lib.hid (show cmpV x y = if X ≠ 0 then X else Y by unfold cmpV; rw [hX, hY])
  clear hX hY
  rw [hV] at HV
  have co : Calls Try.prog 118 #[.slice (some ⟨N, 0, none⟩) 2 2] (w1.alloc (.cells #[.int .i64 X, .int .i64 Y] 3)).drew fun e w'' => e = .returned (.int .i64 V) ∧ Stays N (w1.alloc (.cells #[.int .i64 X, .int .i64 Y] 3)).drew w'' := by
    have hh := heap_alloc_self w1 (.cells #[.int .i64 X, .int .i64 Y] 3)
    rw [hN] at hh
    have hh2 : ((w1.alloc (.cells #[.int .i64 X, .int .i64 Y] 3)).drew).heap[N]? = some (.cells #[.int .i64 X, .int .i64 Y] 3) := hh
    refine Calls.mono (or_two X Y _ N (by simp only [World.cell?, hh2]; rfl) (by simp only [World.cell?, hh2]; rfl)) ?_
    rintro e w'' ⟨rfl, rfl⟩
    exact ⟨by rw [HV.out], stays_refl (by show N ≤ (w1.alloc _).heap.size; simp; omega)⟩
  clear hV
  go_region_held3 (fun w' => N ≤ w'.heap.size ∧ Below N w1 w' ∧ ∀ b o, b < N → w'.cell? ⟨b, o, none⟩ = w1.cell? ⟨b, o, none⟩) (first | exact hks | exact keeps_alloc (by assumption) | exact keeps_next (by assumption) (by assumption)) (first | (go_at_call 119; (with_reducible refine Calls.mono (cu _) ?_); rintro e wz ⟨rfl, rfl⟩) | (go_at_call 120; (with_reducible refine Calls.mono (ci _) ?_); rintro e wz ⟨rfl, rfl⟩) | (go_at_call 118; refine Calls.mono co ?_; rintro e wz ⟨rfl, hz⟩))
  all_goals
    have hfin := ‹N ≤ wz.heap.size ∧ Below N w1 wz ∧ _›
    have HF := Lib.hid (HB.out.trans ((hN ▸ hfin.2.1 : Below w1.heap.size w1 wz).mono (by omega)))
    clear hfin
    go_wp2_with fail
    go_ret
    exact ⟨rfl, HF.out⟩
end Go.Proofs.Ytadejhlljdcocaa
/-
  Items sorted in place: slices.SortStableFunc of few; extent.Rising.
-/


namespace Go.Proofs.Ytadejhlljdcocaa
open Go.RowKit
set_option linter.unusedVariables false
set_option linter.unusedSimpArgs false

theorem set_behind {P Q : List Value} {n k : Nat} {u : Value} (h : P.length = n) : (P ++ Q).set (n + k) u = P ++ Q.set k u := by
  rw [List.set_append_right _ _ (by omega)]
  congr 2
  omega
/-- two items change their places, cell by cell -/
theorem hCells_swp (m : List HI) (i : Nat) (hi : i + 1 < m.length) {x y : HI} (hx : m.getD i zeroH = x) (hy : m.getD (i + 1) zeroH = y) :
    ((((((hCells m).set ((i + 1) * 3) (.int .i64 x.b)).set ((i + 1) * 3 + 1) (.int .u64 x.v)).set ((i + 1) * 3 + 2) (.string x.d)).set (i * 3) (.int .i64 y.b)).set (i * 3 + 1) (.int .u64 y.v)).set (i * 3 + 2) (.string y.d) = hCells (swpG zeroH m i) := by
  obtain ⟨e1, e2⟩ := swpG_cut zeroH m i hi
  rw [hx, hy] at e1 e2
  rw [e2]
  conv => lhs; rw [e1]
  have hl : (m.take i).length = i := by simp; omega
  have hl3 : (hCells (m.take i)).length = i * 3 := by rw [hCells_length, hl]
  generalize m.take i = P at *
  generalize m.drop (i + 2) = Q at *
  rw [hCells_append, hCells_append]
  simp only [hCells]
  rw [show (i + 1) * 3 = i * 3 + 3 by omega, show i * 3 + 3 + 1 = i * 3 + 4 by omega, show i * 3 + 3 + 2 = i * 3 + 5 by omega]
  have hz : ∀ (Q : List Value) (u : Value), (hCells P ++ Q).set (i * 3) u = hCells P ++ Q.set 0 u := fun Q u => by simpa using set_behind (Q := Q) (u := u) (k := 0) hl3
  rw [set_behind hl3, set_behind hl3, set_behind hl3, hz, set_behind hl3, set_behind hl3]
  rfl
/-- an own row of items, and what else stays -/
def HRow (N : Nat) (w wr : World) (g n cap : Nat) (m : List HI) : Prop := wr.ownsRow N 125 3 (.slice (some ⟨g, 0, none⟩) n cap) n (hCells m) ∧ Below N w wr
theorem HRow.go {N : Nat} {w wr w' : World} {g n cap : Nat} {m : List HI} (h : HRow N w wr g n cap m) (hN : N ≤ wr.heap.size) (hb : Below wr.heap.size wr w') : HRow N w w' g n cap m := ⟨owns_below h.1 hb, h.2.trans (hb.mono hN)⟩
theorem HRow.at_ {N : Nat} {w wr : World} {g n cap : Nat} {m : List HI} (h : HRow N w wr g n cap m) {k : Nat} {x : HI} (hx : m[k]? = some x) :
    wr.cell? ⟨g, k * 3, none⟩ = some (.int .i64 x.b) ∧ wr.cell? ⟨g, k * 3 + 1, none⟩ = some (.int .u64 x.v) ∧ wr.cell? ⟨g, k * 3 + 2, none⟩ = some (.string x.d) := by
  obtain ⟨b, off, he, -, h1, h2, h3⟩ := sr_held (SR.owns h.1) k x hx
  injection he with he
  injection he with e1 e2
  subst e1 e2
  simpa using And.intro h1 (And.intro h2 h3)
theorem HRow.lt {N : Nat} {w wr : World} {g n cap : Nat} {m : List HI} (h : HRow N w wr g n cap m) : N ≤ g := (h.1.lt g rfl).1
theorem HRow.set {N : Nat} {w wr : World} {g n cap k : Nat} {u : Value} {m : List HI} {xs : List Value} (h : wr.ownsRow N 125 3 (.slice (some ⟨g, 0, none⟩) n cap) n xs ∧ Below N w wr) (hN : N ≤ g) : (wr.setCell ⟨g, k, none⟩ u).ownsRow N 125 3 (.slice (some ⟨g, 0, none⟩) n cap) n (xs.set k u) ∧ Below N w (wr.setCell ⟨g, k, none⟩ u) := ⟨own_cel h.1 u, h.2.setCell (p := ⟨g, k, none⟩) hN u⟩
theorem HRow.swap {N : Nat} {w wr : World} {g n cap i : Nat} {m : List HI} (h : HRow N w wr g n cap m) (hi : i + 1 < m.length) {x y : HI} (hx : m.getD i zeroH = x) (hy : m.getD (i + 1) zeroH = y) :
    HRow N w ((((((wr.setCell ⟨g, (i + 1) * 3, none⟩ (.int .i64 x.b)).setCell ⟨g, (i + 1) * 3 + 1, none⟩ (.int .u64 x.v)).setCell ⟨g, (i + 1) * 3 + 2, none⟩ (.string x.d)).setCell ⟨g, i * 3, none⟩ (.int .i64 y.b)).setCell ⟨g, i * 3 + 1, none⟩ (.int .u64 y.v)).setCell ⟨g, i * 3 + 2, none⟩ (.string y.d)) g n cap (swpG zeroH m i) := by
  have hN := h.lt
  unfold HRow at h ⊢
  rw [← hCells_swp m i hi hx hy]
  exact HRow.set (m := m) (HRow.set (m := m) (HRow.set (m := m) (HRow.set (m := m) (HRow.set (m := m) (HRow.set (m := m) h hN) hN) hN) hN) hN) hN
def SortPostH (N : Nat) (w : World) (g n cap : Nat) (m : List HI) (e : Ending) (w' : World) : Prop := e = .returned (.tuple #[]) ∧ HRow N w w' g n cap m ∧ N ≤ w'.heap.size
set_option maxHeartbeats 3200000 in
set_option maxRecDepth 100000 in
theorem insH (N g n cap : Nat) (l : List HI) (w : World) (hl : l.length = n) (hn : n ≤ 1000) (hn2 : 1 ≤ n) (hnc : n ≤ cap) (hcm : cap ≤ maxLen) (hN : N ≤ w.heap.size) (hrow : HRow N w w g n cap l) :
    Calls Try.prog 189 #[.slice (some ⟨g, 0, none⟩) n cap, .int .i64 0, .int .i64 n, .func (.func 117) #[] #[]] w (SortPostH N w g n cap (insG zeroH cmpV l n)) := by
  have eg : ∀ args w, (callFunc 117 args).run Try.prog w = .ok (.enter 117 args) w := fun _ _ => by rfl
  have HS := Lib.hid (show HRow N w w g n cap (insG zeroH cmpV l 1) ∧ N ≤ w.heap.size from ⟨hrow, hN⟩)
  have HL := Lib.hid hl
  have HNW := Lib.hid hN
  unfold maxLen at hcm
  clear hrow hl hN
  go_enter Try.func189, Try.ntmps189
  go_wp2_with fail
  go_loopw [8] (fun i wr => ∃ k : Nat, 1 ≤ k ∧ k ≤ n ∧ i = .int .i64 k ∧ Hid (HRow N w wr g n cap (insG zeroH cmpV l k) ∧ N ≤ wr.heap.size)) (fun i _ => n - (intOf i).toNat)
  case atStart => exact ⟨1, by decide, hn2, rfl, HS⟩
  case round =>
    obtain ⟨k, hk1, hk, rfl, HR⟩ := hrel
    clear HS
    by_cases hlt : k < n
    · go_wp2_with fail
      go_loopw [9] (fun i wr => ∃ (j : Nat) (m : List HI), j ≤ k ∧ i = .int .i64 j ∧ Hid (HRow N w wr g n cap m ∧ N ≤ wr.heap.size ∧ m.length = n ∧ bubG zeroH cmpV j m = insG zeroH cmpV l (k + 1))) (fun i _ => (intOf i).toNat)
      case atStart => exact ⟨k, _, Nat.le_refl _, rfl, Lib.hid ⟨HR.out.1, HR.out.2, by rw [insG_len, HL.out], rfl⟩⟩
      case round =>
        obtain ⟨j, m, hj, rfl, HM⟩ := hrel
        obtain ⟨W0, hW0⟩ : ∃ W0, W0 = wr := ⟨_, rfl⟩
        subst hW0
        have hjn : j < n := by omega
        rcases j with _ | i
        · go_wp2_with fail
          go_quiet (fail)
          have HE := Lib.hid (show HRow N w (W0.drewN nq) g n cap (insG zeroH cmpV l (k + 1)) ∧ N ≤ (W0.drewN nq).heap.size from by
            have := HM.out
            rw [← this.2.2.2]
            exact ⟨this.1.go this.2.1 (below_drewN' (Below.refl _ _) nq), this.2.1⟩)
          go_wp2_with fail
          go_roundw
          case rel => exact ⟨k + 1, by omega, by omega, by go_num, HE⟩
          case measure => simp [intOf]; omega
        · obtain ⟨hM, hsz, hml, hmb⟩ := HM.out
          have hi1 : i + 1 < m.length := by omega
          have hbs : bubG zeroH cmpV (i + 1) m = if cmpV (m.getD (i + 1) zeroH) (m.getD i zeroH) < 0 then bubG zeroH cmpV i (swpG zeroH m i) else m := rfl
          obtain ⟨x, hxe⟩ : ∃ x, m.getD (i + 1) zeroH = x := ⟨_, rfl⟩
          obtain ⟨y, hye⟩ : ∃ y, m.getD i zeroH = y := ⟨_, rfl⟩
          have hx : m[i + 1]? = some x := by rw [← hxe, List.getD_eq_getElem?_getD, List.getElem?_eq_getElem hi1]; rfl
          have hy : m[i]? = some y := by rw [← hye, List.getD_eq_getElem?_getD, List.getElem?_eq_getElem (show i < m.length by omega)]; rfl
          obtain ⟨p0, p1, p2⟩ := hM.at_ hx
          obtain ⟨q0, q1, q2⟩ := hM.at_ hy
          rw [hxe, hye] at hbs
          have cc := fun w' => rise_clos x y w'
          obtain ⟨c, hc⟩ : ∃ c, cmpV x y = c := ⟨_, rfl⟩
          rw [hc] at cc hbs
          have HX := Lib.hid (And.intro hxe (And.intro hye hbs))
          have hs1 : ((i + 1 : Nat) : Int) - 1 = i := by omega
          have hpos : decide (0 < i + 1) = true := decide_eq_true (by omega)
          have hpos2 : decide ((0 : Int) < i + 1) = true := decide_eq_true (by omega)
          have hw1 : IntKind.i64.wrap ((i : Int) + 1 - 1) = i := by rw [show (i : Int) + 1 - 1 = i by omega, IntKind.wrap_i64]; omega
          have hw3 : IntKind.i64.wrap (i : Int) = i := by rw [IntKind.wrap_i64]; omega
          have hs2 : (i : Int) + 1 - 1 = i := by omega
          have hn1 : (i : Int) + 1 < n := by omega
          have hn0 : (i : Int) < n := by omega
          have hz0 : (0 : Int) ≤ i := by omega
          have hz1 : (0 : Int) ≤ (i : Int) + 1 := by omega
          have ht1 : ((i : Int) + 1).toNat = i + 1 := by omega
          clear hM hsz hml hmb hbs hx hy hxe hye hc
          go_upto_region 4 with fail
          go_still_tail 14, (by kernel_rfl)
          change wpList _ _ _ _ _ W0.drew
          clear p0 p1 p2 q0 q1 q2
          go_wp2_with fail
          refine Calls.mono (cc _) ?_
          rintro e w2 ⟨rfl, hb2⟩
          have hb3 : Below W0.heap.size W0 w2 := ⟨hb2.os, hb2.tape, hb2.output, hb2.size, hb2.block⟩
          have HM2 := Lib.hid (show HRow N w w2 g n cap m ∧ N ≤ w2.heap.size from ⟨HM.out.1.go HM.out.2.1 hb3, Nat.le_trans HM.out.2.1 hb3.size⟩)
          clear hb2 hb3
          by_cases hcn : c < 0
          · have hcd : decide (c < 0) = true := decide_eq_true hcn
            have hi1 : i + 1 < m.length := by have := HM.out.2.2.1; omega
            have hx : m[i + 1]? = some x := by rw [← HX.out.1, List.getD_eq_getElem?_getD, List.getElem?_eq_getElem hi1]; rfl
            have hy : m[i]? = some y := by rw [← HX.out.2.1, List.getD_eq_getElem?_getD, List.getElem?_eq_getElem (show i < m.length by omega)]; rfl
            obtain ⟨p0, p1, p2⟩ := HM2.out.1.at_ hx
            obtain ⟨q0, q1, q2⟩ := HM2.out.1.at_ hy
            have fz := fun k => own_froz (k := k) HM2.out.1.1
            have h := HM2.out.1.swap hi1 HX.out.2.1 HX.out.1
            have h2 := h.go (Nat.le_trans HNW.out h.2.size) (below_drew' (Below.refl _ _))
            have hbu : bubG zeroH cmpV i (swpG zeroH m i) = insG zeroH cmpV l (k + 1) := by
              have h1 := HX.out.2.2
              rw [if_pos hcn] at h1
              rw [← h1]
              exact HM.out.2.2.2
            have HN := Lib.hid (And.intro h2 (And.intro (Nat.le_trans HNW.out h2.2.size) (And.intro (show (swpG zeroH m i).length = n by rw [swpG_len]; exact HM.out.2.2.1) hbu)))
            clear h h2 hbu
            clear hx hy
            go_wp2_with fail
            go_region
            all_goals
              go_wp2_with fail
              go_roundw
              case rel => exact ⟨i, swpG zeroH m i, by omega, by first | rfl | simp, HN⟩
              case measure => simp [intOf]; try omega
          · have hcd : decide (c < 0) = false := decide_eq_false hcn
            have HE := Lib.hid (show HRow N w w2 g n cap (insG zeroH cmpV l (k + 1)) ∧ N ≤ w2.heap.size from by
              have h1 := HX.out.2.2
              rw [if_neg hcn] at h1
              rw [← HM.out.2.2.2, h1]
              exact HM2.out)
            go_wp2_with fail
            go_roundw
            case rel => exact ⟨k + 1, by omega, by omega, by go_num, HE⟩
            case measure => simp [intOf]; omega
    · obtain rfl : k = n := by omega
      go_wp2_with fail
      go_end0
      exact ⟨rfl, HR.out.1, HR.out.2⟩
set_option maxHeartbeats 1600000 in
set_option maxRecDepth 100000 in
theorem stableH (N g n cap : Nat) (l : List HI) (w : World) (hl : l.length = n) (hn : n < 20) (hn2 : 1 ≤ n) (hnc : n ≤ cap) (hcm : cap ≤ maxLen) (hN : N ≤ w.heap.size) (hrow : HRow N w w g n cap l) :
    Calls Try.prog 116 #[.slice (some ⟨g, 0, none⟩) n cap, .func (.func 117) #[] #[]] w (SortPostH N w g n cap (insG zeroH cmpV l n)) := by
  have ci := insH N g n cap l w hl (by omega) hn2 hnc hcm hN hrow
  unfold maxLen at hcm
  have cs : Calls Try.prog 157 #[.slice (some ⟨g, 0, none⟩) n cap, .int .i64 n, .func (.func 117) #[] #[]] w (SortPostH N w g n cap (insG zeroH cmpV l n)) := by
    clear hrow hl hN
    go_enter Try.func157, Try.ntmps157
    go_wp2_with fail
    go_loopw [7, 8] (fun x y wr => x = .int .i64 0 ∧ y = .int .i64 20 ∧ wr = w) (fun _ _ _ => 0)
    case atStart => exact ⟨rfl, rfl, rfl⟩
    case round =>
      obtain ⟨rfl, rfl, rfl⟩ := hrel
      go_wp2_with fail
      refine Calls.mono ci ?_
      rintro e w1 ⟨rfl, h1⟩
      go_wp2_with fail
      go_loopw [6] (fun x wr => x = .int .i64 20 ∧ wr = w1) (fun _ _ => 0)
      case atStart => exact ⟨rfl, rfl⟩
      case round =>
        obtain ⟨rfl, rfl⟩ := hrel
        go_wp2_with fail
        go_end0
        exact ⟨rfl, h1⟩
  clear ci hrow hl hN
  go_enter Try.func116, Try.ntmps116
  go_wp2_with fail
  refine Calls.mono cs ?_
  rintro e w1 ⟨rfl, h1⟩
  go_wp2_with fail
  go_end0
  exact ⟨rfl, h1⟩
end Go.Proofs.Ytadejhlljdcocaa
