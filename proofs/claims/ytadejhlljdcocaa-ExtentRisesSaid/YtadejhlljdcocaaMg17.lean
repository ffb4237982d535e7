/-
  Several texts, laid together.
-/
import Derived.Test.YtadejhlljdcocaaMg15
import Derived.Test.YtadejhlljdcocaaMg16
/-
  What nodes tell, as it comes in from outside.
-/


namespace Go.Proofs.Ytadejhlljdcocaa
open Go.RowKit
set_option linter.unusedVariables false
set_option linter.unusedSimpArgs false

abbrev toldSh : Sh := .two (.int .i64) (.two (.int .i64) (.two (.slice heldSh) (.two (.slice heldSh) .unit)))
/-- a node that tells what came in -/
def RawF (t : TD) : Prop := (∀ x ∈ t.A, Raw x) ∧ ∀ x ∈ t.D, Raw x
theorem fits_told1 {w : World} {ys : List Value} (h : Fits w toldSh ys) : ∃ t : TD, ys = t.cells.toList ∧ RawF t ∧ t.at_ w := by
  obtain ⟨x0, y0, rfl, ⟨e, rfl, -⟩, x1, y1, rfl, ⟨d, rfl, -⟩, x3, y3, rfl, hD, x4, y4, rfl, hA, rfl⟩ := h
  obtain ⟨aD, lD, cD, rfl, hD'⟩ : ∃ a l q, x3 = [.slice a l q] ∧ Fits w (.slice heldSh) [.slice a l q] := by
    obtain ⟨a, l, q, rfl, h⟩ := hD
    exact ⟨a, l, q, rfl, a, l, q, rfl, h⟩
  obtain ⟨aA, lA, cA, rfl, hA'⟩ : ∃ a l q, x4 = [.slice a l q] ∧ Fits w (.slice heldSh) [.slice a l q] := by
    obtain ⟨a, l, q, rfl, h⟩ := hA
    exact ⟨a, l, q, rfl, a, l, q, rfl, h⟩
  obtain ⟨D, h1, h2, h3⟩ := fits_held hD'
  obtain ⟨A, g1, g2, g3⟩ := fits_held hA'
  subst h1 g1
  exact ⟨⟨e, d, D, A, .slice aD D.length cD, .slice aA A.length cA⟩, rfl, ⟨g3, h3⟩, h2, g2⟩
theorem tCells_get' : ∀ (l : List TD) (j : Nat) (u : Value), (tCells l)[j]? = some u → ∃ x, l[j / 4]? = some x ∧ x.cells[j % 4]? = some u
  | [], j, u, h => by simp [tCells] at h
  | x :: t, 0, u, h => ⟨x, rfl, by simpa [tCells, TD.cells] using h⟩
  | x :: t, 1, u, h => ⟨x, rfl, by simpa [tCells, TD.cells] using h⟩
  | x :: t, 2, u, h => ⟨x, rfl, by simpa [tCells, TD.cells] using h⟩
  | x :: t, 3, u, h => ⟨x, rfl, by simpa [tCells, TD.cells] using h⟩
  | x :: t, j + 4, u, h => by
    obtain ⟨y, h1, h2⟩ := tCells_get' t j u (by simpa [tCells, TD.cells] using h)
    exact ⟨y, by rw [show (j + 4) / 4 = j / 4 + 1 by omega]; simpa using h1, by rw [show (j + 4) % 4 = j % 4 by omega]; exact h2⟩
theorem fits_told {w : World} {a : Option Addr} {len cap : Nat} (h : Fits w (.slice toldSh) [.slice a len cap]) : ∃ ts : List TD, ts.length = len ∧ TDs w (.slice a len cap) ts ∧ ∀ t ∈ ts, RawF t := by
  obtain ⟨hlc, hcm, hel⟩ := h.slice
  rcases Nat.eq_zero_or_pos len with h0 | h0
  · subst h0
    exact ⟨[], rfl, ⟨⟨a, cap, rfl, hlc, hcm, rfl, .inl rfl⟩, by simp⟩, by simp⟩
  · obtain ⟨b, off, rfl, hb, hi⟩ := hel.resolve_left (by omega)
    have hx : ∀ i, i < len → ∃ x : TD, (RawF x ∧ x.at_ w) ∧ ∀ (k : Nat) u, x.cells[k]? = some u → w.cell? ⟨b, off + i * 4 + k, none⟩ = some u := fun i hlt => by
      obtain ⟨ys, _, hc, hf⟩ := hi i hlt
      obtain ⟨x, rfl, hr, ha⟩ := fits_told1 hf
      exact ⟨x, ⟨hr, ha⟩, fun k u hk => hc k u (by simpa using hk)⟩
    have hrs : ∀ n, n ≤ len → ∃ rs : List TD, rs.length = n ∧ (∀ x ∈ rs, RawF x ∧ x.at_ w) ∧ ∀ i x, rs[i]? = some x → ∀ (k : Nat) u, x.cells[k]? = some u → w.cell? ⟨b, off + i * 4 + k, none⟩ = some u := by
      intro n
      induction n with
      | zero => exact fun _ => ⟨[], rfl, by simp, fun i x e => by simp at e⟩
      | succ n ih =>
        intro hn
        obtain ⟨rs, h1, h2, h3⟩ := ih (by omega)
        obtain ⟨x, hr, hc⟩ := hx n (by omega)
        refine ⟨rs ++ [x], by simp [h1], fun y hy => ?_, fun i y e => ?_⟩
        · rcases List.mem_append.1 hy with q | q
          · exact h2 y q
          · rw [List.mem_singleton.1 q]; exact hr
        · rcases Nat.lt_trichotomy i n with q | q | q
          · rw [List.getElem?_append_left (by omega)] at e
            exact h3 i y e
          · subst q
            rw [List.getElem?_append_right (by omega), h1, Nat.sub_self] at e
            simp only [List.getElem?_cons_zero, Option.some.injEq] at e
            subst e
            exact hc
          · have := (List.getElem?_eq_some_iff.1 e).1
            simp [h1] at this
            omega
    obtain ⟨rs, h1, h2, h3⟩ := hrs len (Nat.le_refl _)
    refine ⟨rs, h1, ⟨?_, fun t ht => (h2 t ht).2⟩, fun t ht => (h2 t ht).1⟩
    subst h1
    refine ⟨some ⟨b, off, none⟩, cap, rfl, hlc, hcm, tCells_length rs, .inr ⟨b, off, rfl, hb, fun j u hj => ?_⟩⟩
    obtain ⟨x, q1, q2⟩ := tCells_get' rs j u hj
    have := h3 _ _ q1 _ _ q2
    rwa [Nat.add_assoc, show j / 4 * 4 + j % 4 = j by omega] at this
end Go.Proofs.Ytadejhlljdcocaa
/-
  ItemsMerge: two lists together, both ways round.
-/

namespace Go.Proofs.Ytadejhlljdcocaa
open Go.RowKit
set_option linter.unusedVariables false
set_option linter.unusedSimpArgs false

/-- which version of a block there is -/
def getV (l : List HI) (b : Int) : Option Int := (getL l b).map (·.v)
def maxV (o : Option Int) (v : Int) : Option Int := match o with | none => some v | some u => some (max u v)
theorem maxV_comm (o : Option Int) (u v : Int) : maxV (maxV o u) v = maxV (maxV o v) u := by
  cases o <;> simp only [maxV] <;> congr 1 <;> omega
theorem getL_lay {l : List HI} (h : Srt l) (x : HI) (b : Int) : getV (layL l x) b = if x.b = b then maxV (getV l b) x.v else getV l b := by
  cases split_of l x.b h.pw with
  | no A B e hA hB =>
    subst e
    rw [layL_no hA hB]
    by_cases hb : x.b = b
    · subst hb
      rw [if_pos rfl]
      unfold getV
      rw [getL_yes hA rfl, getL_no hA hB]
      rfl
    · rw [if_neg hb]
      unfold getV getL
      rw [List.find?_append, List.find?_append, List.find?_cons_of_neg (by simpa using hb)]
  | yes A y B e hy hA hB =>
    subst e
    rw [layL_yes hA hy]
    by_cases hb : x.b = b
    · subst hb
      rw [if_pos rfl]
      unfold getV
      rw [getL_yes hA hy]
      by_cases hv : y.v < x.v
      · rw [if_pos hv, getL_yes hA rfl]
        simp only [Option.map_some, maxV]
        congr 1
        omega
      · rw [if_neg hv, getL_yes hA hy]
        simp only [Option.map_some, maxV]
        congr 1
        omega
    · rw [if_neg hb]
      unfold getV getL
      rw [List.find?_append, List.find?_append, List.find?_cons_of_neg (by split <;> first | (simpa using hb) | (rw [hy]; simpa using hb)), List.find?_cons_of_neg (by rw [hy]; simpa using hb)]
/-- one more, as its versions are seen -/
noncomputable def stepV (s : Int → Option Int) (x : HI) (b : Int) : Option Int := if (mB x.v x.d && inB x.b) = true ∧ x.b = b then maxV (s b) x.v else s b
theorem stepV_comm (s : Int → Option Int) (x y : HI) : stepV (stepV s x) y = stepV (stepV s y) x := by
  funext b
  unfold stepV
  split <;> split <;> first | rfl | exact maxV_comm _ _ _ | rfl
theorem getV_put {l : List HI} (h : Srt l) (x : HI) : getV (putB l x) = stepV (getV l) x := by
  funext b
  unfold putB putL stepV
  by_cases hm : (mB x.v x.d && inB x.b) = true
  · rw [if_pos hm, getL_lay h]
    by_cases hb : x.b = b
    · rw [if_pos hb, if_pos ⟨hm, hb⟩]
    · rw [if_neg hb, if_neg (fun q => hb q.2)]
  · rw [if_neg hm, if_neg (fun q => hm q.1)]
theorem getV_putAll {xs : List HI} : ∀ {l : List HI}, Srt l → (∀ x ∈ xs, Ok x) → getV (putAll l xs) = xs.foldl stepV (getV l) := by
  induction xs with
  | nil => intro l _ _; rfl
  | cons x t ih =>
    intro l h ho
    have := ih (srt_put h (ho x (by simp))) (fun y hy => ho y (by simp [hy]))
    rw [getV_put h] at this
    exact this
theorem getV_perm {xs ys : List HI} (hp : xs.Perm ys) (ho : ∀ x ∈ xs, Ok x) : getV (putAll [] xs) = getV (putAll [] ys) := by
  rw [getV_putAll Srt.nil ho, getV_putAll Srt.nil (fun y hy => ho y (hp.mem_iff.2 hy))]
  exact hp.foldl_eq' (fun x _ y _ z => stepV_comm z x y) _
def bv (l : List HI) : List (Int × Int) := l.map fun h => (h.b, h.v)
theorem getV_head (h : HI) (t : List HI) : getV (h :: t) h.b = some h.v := by simp [getV, getL]
theorem getV_tail {h : HI} {t : List HI} {b : Int} (hb : h.b ≠ b) : getV (h :: t) b = getV t b := by simp [getV, getL, hb]
theorem getV_none {t : List HI} {b : Int} (h : ∀ y ∈ t, b < y.b) : getV t b = none := by
  unfold getV
  rw [get_none (fun y hy => by have := h y hy; omega)]
  rfl
theorem bv_same : ∀ (l m : List HI), l.Pairwise (fun x y => x.b < y.b) → m.Pairwise (fun x y => x.b < y.b) → (∀ b, getV l b = getV m b) → bv l = bv m
  | [], [], _, _, _ => rfl
  | [], k :: s, _, _, h => by
    have := h k.b
    rw [getV_head] at this
    simp [getV, getL] at this
  | x :: t, [], _, _, h => by
    have := h x.b
    rw [getV_head] at this
    simp [getV, getL] at this
  | x :: t, k :: s, hl, hm, h => by
    rw [List.pairwise_cons] at hl hm
    have hb : x.b = k.b := by
      rcases Int.lt_trichotomy x.b k.b with q | q | q
      · have := h x.b
        rw [getV_head, getV_none (fun y hy => by rcases List.mem_cons.1 hy with rfl | hy; exact q; have := hm.1 y hy; omega)] at this
        cases this
      · exact q
      · have := h k.b
        rw [getV_head, getV_none (fun y hy => by rcases List.mem_cons.1 hy with rfl | hy; exact q; have := hl.1 y hy; omega)] at this
        cases this
    have hv : x.v = k.v := by
      have := h x.b
      rw [getV_head, hb, getV_head] at this
      exact Option.some.inj this
    have ht : bv t = bv s := bv_same t s hl.2 hm.2 fun b => by
      by_cases q : x.b = b
      · subst q
        rw [getV_none hl.1, getV_none (by rw [hb]; exact hm.1)]
      · have := h b
        rwa [getV_tail q, getV_tail (by rw [← hb]; exact q)] at this
    show (x.b, x.v) :: bv t = (k.b, k.v) :: bv s
    rw [hb, hv, ht]
theorem bv_at {l m : List HI} (h : bv l = bv m) {j : Nat} {x : HI} (hx : l[j]? = some x) : ∃ y, m[j]? = some y ∧ y.b = x.b ∧ y.v = x.v := by
  have h1 : (bv m)[j]? = some (x.b, x.v) := by rw [← h]; simp [bv, hx]
  simp only [bv, List.getElem?_map, Option.map_eq_some_iff, Prod.mk.injEq] at h1
  obtain ⟨y, q1, q2, q3⟩ := h1
  exact ⟨y, q1, q2, q3⟩
theorem bv_len {l m : List HI} (h : bv l = bv m) : l.length = m.length := by
  have := congrArg List.length h
  simpa [bv] using this
theorem merge_both (x y : List HI) (hx : ∀ h ∈ x, Ok h) (hy : ∀ h ∈ y, Ok h) : bv (putAll [] (x ++ y)) = bv (putAll [] (y ++ x)) := by
  have ho : ∀ h ∈ x ++ y, Ok h := fun h hh => by rcases List.mem_append.1 hh with q | q; exact hx h q; exact hy h q
  have ho' : ∀ h ∈ y ++ x, Ok h := fun h hh => by rcases List.mem_append.1 hh with q | q; exact hy h q; exact hx h q
  exact bv_same _ _ (srt_putAll Srt.nil ho).pw (srt_putAll Srt.nil ho').pw (fun b => congrFun (getV_perm List.perm_append_comm ho) b)
end Go.Proofs.Ytadejhlljdcocaa
/-
  What two lists of items hold unlike, as plain lists. Of no program.
-/

namespace Go.Proofs.Ytadejhlljdcocaa
open Go.RowKit
set_option linter.unusedVariables false
set_option linter.unusedSimpArgs false

/-- all may be -/
def AllM (l : List HI) : Prop := ∀ x ∈ l, mB x.v x.d = true
theorem mem_lay {l : List HI} {x y : HI} (h : y ∈ layL l x) : y ∈ l ∨ y = x := by
  induction l with
  | nil => simp only [layL, List.mem_singleton] at h; exact .inr h
  | cons z t ih =>
    unfold layL at h
    split at h
    · rcases List.mem_cons.1 h with q | q
      · exact .inl (by simp [q])
      · rcases ih q with r | r
        · exact .inl (by simp [r])
        · exact .inr r
    · split at h
      · split at h
        · rcases List.mem_cons.1 h with q | q
          · exact .inr q
          · exact .inl (by simp [q])
        · exact .inl h
      · rcases List.mem_cons.1 h with q | q
        · exact .inr q
        · exact .inl q
theorem allM_put {l : List HI} {x : HI} (h : AllM l) : AllM (putB l x) := by
  unfold putB putL
  split
  · rename_i hm
    rw [Bool.and_eq_true] at hm
    intro y hy
    rcases mem_lay hy with q | q
    · exact h y q
    · rw [q]; exact hm.1
  · exact h
theorem allM_putAll {xs : List HI} : ∀ {l : List HI}, AllM l → AllM (putAll l xs) := by
  induction xs with
  | nil => intro l h; exact h
  | cons x t ih => intro l h; exact ih (allM_put h)
theorem good_in {x : HI} (h : Good x) : inB x.b = true := by simp [inB, h.1, h.2.1]
theorem of_more {B : List HI} : ∀ {A : List HI}, Srt (A ++ B) → AllM B → putAll A B = A ++ B := by
  induction B with
  | nil => intro A _ _; simp [putAll]
  | cons x t ih =>
    intro A hs hm
    have h1 : putB A x = A ++ [x] := by
      unfold putB putL
      rw [hm x (by simp), good_in (hs.all x (by simp))]
      have := layL_no (A := A) (B := []) (x := x) (srt_parts hs.pw).1 (by simp)
      simpa using this
    have h2 := ih (A := A ++ [x]) (by simpa using hs) (fun y hy => hm y (by simp [hy]))
    show putAll (putB A x) t = _
    rw [h1, h2]
    simp
theorem of_self {l : List HI} (h : Srt l) (hm : AllM l) : putAll [] l = l := by simpa using of_more (A := []) (B := l) (by simpa using h) hm
theorem sorted_ext : ∀ (l m : List Int), l.Pairwise (· < ·) → m.Pairwise (· < ·) → (∀ x, x ∈ l ↔ x ∈ m) → l = m
  | [], [], _, _, _ => rfl
  | [], k :: s, _, _, h => absurd ((h k).2 (by simp)) (by simp)
  | x :: t, [], _, _, h => absurd ((h x).1 (by simp)) (by simp)
  | x :: t, k :: s, hl, hm, h => by
    rw [List.pairwise_cons] at hl hm
    have e : x = k := by
      have h1 := (h x).1 (by simp)
      have h2 := (h k).2 (by simp)
      rcases List.mem_cons.1 h1 with q | q
      · exact q
      · rcases List.mem_cons.1 h2 with r | r
        · exact r.symm
        · have := hl.1 k r; have := hm.1 x q; omega
    subst e
    congr 1
    refine sorted_ext t s hl.2 hm.2 fun y => ⟨fun hy => ?_, fun hy => ?_⟩
    · rcases List.mem_cons.1 ((h y).1 (by simp [hy])) with q | q
      · have := hl.1 y hy; omega
      · exact q
    · rcases List.mem_cons.1 ((h y).2 (by simp [hy])) with q | q
      · have := hm.1 y hy; omega
      · exact q
/-- the numbers below n of which P is told -/
def upTo (P : Int → Bool) (n : Nat) : List Int := ((List.range n).map fun (i : Nat) => (i : Int)).filter P
theorem upTo_next (P : Int → Bool) (n : Nat) : upTo P (n + 1) = upTo P n ++ (if P n = true then [(n : Int)] else []) := by
  unfold upTo
  rw [List.range_succ, List.map_append, List.filter_append]
  simp only [List.map_cons, List.map_nil, List.filter_cons, List.filter_nil]
theorem upTo_sorted (P : Int → Bool) (n : Nat) : (upTo P n).Pairwise (· < ·) := by
  unfold upTo
  refine List.Pairwise.filter _ (List.pairwise_map.2 (List.pairwise_lt_range.imp fun h => by omega))
theorem mem_upTo {P : Int → Bool} {n : Nat} {x : Int} : x ∈ upTo P n ↔ 0 ≤ x ∧ x < n ∧ P x = true := by
  unfold upTo
  simp only [List.mem_filter, List.mem_map, List.mem_range]
  constructor
  · rintro ⟨⟨i, hi, rfl⟩, h⟩
    exact ⟨by omega, by omega, h⟩
  · rintro ⟨h1, h2, h3⟩
    exact ⟨⟨x.toNat, by omega, by omega⟩, h3⟩
theorem upTo_at (P : Int → Bool) (n N : Nat) (h : n < N) (hp : P n = true) : (upTo P N)[(upTo P n).length]? = some (n : Int) := by
  induction N with
  | zero => omega
  | succ N ih =>
    rw [upTo_next]
    rcases Nat.lt_or_ge n N with q | q
    · have := ih q
      rw [List.getElem?_append_left ((List.getElem?_eq_some_iff.1 this).1)]
      exact this
    · obtain rfl : n = N := by omega
      rw [List.getElem?_append_right (Nat.le_refl _), Nat.sub_self, if_pos hp]
      rfl
theorem upTo_le (P : Int → Bool) (n N : Nat) (h : n ≤ N) : (upTo P n).length ≤ (upTo P N).length := by
  induction N with
  | zero => obtain rfl : n = 0 := by omega
            exact Nat.le_refl _
  | succ N ih =>
    rcases Nat.lt_or_ge n (N + 1) with q | q
    · have := ih (by omega)
      rw [upTo_next, List.length_append]
      omega
    · obtain rfl : n = N + 1 := by omega
      exact Nat.le_refl _
theorem upTo_len (P : Int → Bool) (n : Nat) : (upTo P n).length ≤ n := by
  unfold upTo
  exact Nat.le_trans (List.length_filter_le _ _) (by simp)
/-- of sorted items, the blocks of which P is told: those below 64, if no other block has it -/
theorem blocks_upTo {l : List HI} (hs : Srt l) (P : Int → Bool) (hP : ∀ n, P n = true → ∃ x ∈ l, x.b = n) : (l.filter fun h => P h.b).map (·.b) = upTo P 64 := by
  refine sorted_ext _ _ ?_ (upTo_sorted P 64) fun n => ?_
  · exact List.pairwise_map.2 (hs.pw.filter _)
  · rw [mem_upTo]
    simp only [List.mem_map, List.mem_filter]
    constructor
    · rintro ⟨x, ⟨hx, hp⟩, rfl⟩
      exact ⟨(hs.all x hx).1, (hs.all x hx).2.1, hp⟩
    · rintro ⟨_, _, hp⟩
      obtain ⟨x, hx, rfl⟩ := hP n hp
      exact ⟨x, ⟨hx, hp⟩, rfl⟩
theorem get_mem {l : List HI} (hs : Srt l) {x : HI} (hx : x ∈ l) : getL l x.b = some x := by
  obtain ⟨A, B, e⟩ := List.append_of_mem hx
  subst e
  exact getL_yes (srt_parts hs.pw).1 rfl
theorem mem_get {l : List HI} {b : Int} {x : HI} (h : getL l b = some x) : x ∈ l ∧ x.b = b := by
  refine ⟨List.mem_of_find?_eq_some h, ?_⟩
  have := List.find?_some h
  simpa using this
/-- are two lists unlike at a block? -/
def dif (A B : List HI) (n : Int) : Bool := decide (¬ ((getL A n).isSome = (getL B n).isSome ∧ gv (getL A n) = gv (getL B n) ∧ gd (getL A n) = gd (getL B n)))
/-- have they other bytes of one version? -/
def oddP (A B : List HI) (n : Int) : Bool := (getL A n).isSome && ((getL B n).isSome && (decide (gv (getL B n) = gv (getL A n)) && decide (¬ gd (getL B n) = gd (getL A n))))
theorem dif_some {A B : List HI} {n : Int} (h : dif A B n = true) : (getL A n).isSome = true ∨ (getL B n).isSome = true := by
  unfold dif at h
  cases hA : getL A n with
  | some x => exact .inl rfl
  | none =>
    cases hB : getL B n with
    | some x => exact .inr rfl
    | none => rw [hA, hB] at h; simp at h
theorem stepV_keep {s : Int → Option Int} {x : HI} {b : Int} (h : s b ≠ none) : stepV s x b ≠ none := by
  unfold stepV
  split
  · cases hs : s b <;> simp [maxV]
  · exact h
theorem foldV_keep {xs : List HI} {b : Int} : ∀ {s : Int → Option Int}, s b ≠ none → xs.foldl stepV s b ≠ none := by
  induction xs with
  | nil => intro s h; exact h
  | cons x t ih => intro s h; exact ih (stepV_keep h)
theorem foldV_mem {xs : List HI} {x : HI} : ∀ {s : Int → Option Int}, x ∈ xs → (mB x.v x.d && inB x.b) = true → xs.foldl stepV s x.b ≠ none := by
  induction xs with
  | nil => intro s h _; cases h
  | cons y t ih =>
    intro s h hm
    rcases List.mem_cons.1 h with q | q
    · subst q
      refine foldV_keep (s := stepV s x) ?_
      unfold stepV
      rw [if_pos ⟨hm, rfl⟩]
      cases hs : s x.b <;> simp [maxV]
    · exact ih (s := stepV s y) q hm
/-- whatever block one of them has, both together have -/
theorem merged_has {xs : List HI} (ho : ∀ x ∈ xs, Ok x) {x : HI} (hx : x ∈ xs) (hg : Good x) (hm : mB x.v x.d = true) : ∃ y ∈ putAll [] xs, y.b = x.b := by
  have h1 : getV (putAll [] xs) x.b ≠ none := by
    rw [getV_putAll Srt.nil ho]
    exact foldV_mem hx (by rw [hm, good_in hg]; rfl)
  unfold getV at h1
  cases hg2 : getL (putAll [] xs) x.b with
  | none => rw [hg2] at h1; exact absurd rfl h1
  | some y =>
    obtain ⟨h2, h3⟩ := mem_get hg2
    exact ⟨y, h2, h3⟩
theorem dif_blocks {A B : List HI} (hA : Srt A) (hB : Srt B) (mA : AllM A) (mB' : AllM B) : ((putAll [] (A ++ B)).filter fun h => dif A B h.b).map (·.b) = upTo (dif A B) 64 := by
  have ho : ∀ h ∈ A ++ B, Ok h := fun h hh => by rcases List.mem_append.1 hh with q | q; exact hA.ok h q; exact hB.ok h q
  refine blocks_upTo (srt_putAll Srt.nil ho) _ fun n hn => ?_
  rcases dif_some hn with q | q
  · obtain ⟨x, hx⟩ := Option.isSome_iff_exists.1 q
    obtain ⟨h1, h2⟩ := mem_get hx
    obtain ⟨y, h3, h4⟩ := merged_has ho (x := x) (by simp [h1]) (hA.all x h1) (mA x h1)
    exact ⟨y, h3, h4.trans h2⟩
  · obtain ⟨x, hx⟩ := Option.isSome_iff_exists.1 q
    obtain ⟨h1, h2⟩ := mem_get hx
    obtain ⟨y, h3, h4⟩ := merged_has ho (x := x) (by simp [h1]) (hB.all x h1) (mB' x h1)
    exact ⟨y, h3, h4.trans h2⟩
theorem odd_blocks {A B : List HI} (hA : Srt A) : (A.filter fun h => oddP A B h.b).map (·.b) = upTo (oddP A B) 64 := by
  refine blocks_upTo hA _ fun n hn => ?_
  unfold oddP at hn
  rw [Bool.and_eq_true] at hn
  obtain ⟨x, hx⟩ := Option.isSome_iff_exists.1 hn.1
  obtain ⟨h1, h2⟩ := mem_get hx
  exact ⟨x, h1, h2⟩
end Go.Proofs.Ytadejhlljdcocaa
