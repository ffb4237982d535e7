/-
  ItemsMerge: two lists together, both ways round.
-/
import Derived.Test.YtoonlhjldkkanaaNearB
namespace Go.Proofs.Ytoonlhjldkkanaa
open Go.RowKit
set_option linter.unusedVariables false
set_option linter.unusedSimpArgs false

/-- which version of a block there is -/
def getV (l : List HI) (b : Int) : Option Int := (getL l b).map (·.v)
def maxV (o : Option Int) (v : Int) : Option Int := match o with | none => some v | some u => some (max u v)
theorem maxV_comm (o : Option Int) (u v : Int) : maxV (maxV o u) v = maxV (maxV o v) u := by
  cases o <;> simp only [maxV] <;> congr 1 <;> omega
theorem getL_lay {l : List HI} (h : Srt l) (x : HI) (b : Int) : getV (layL l x) b = if x.b = b then maxV (getV l b) x.v else getV l b := by
  cases split_of l x.b h.pw with
  | no A B e hA hB =>
    subst e
    rw [layL_no hA hB]
    by_cases hb : x.b = b
    · subst hb
      rw [if_pos rfl]
      unfold getV
      rw [getL_yes hA rfl, getL_no hA hB]
      rfl
    · rw [if_neg hb]
      unfold getV getL
      rw [List.find?_append, List.find?_append, List.find?_cons_of_neg (by simpa using hb)]
  | yes A y B e hy hA hB =>
    subst e
    rw [layL_yes hA hy]
    by_cases hb : x.b = b
    · subst hb
      rw [if_pos rfl]
      unfold getV
      rw [getL_yes hA hy]
      by_cases hv : y.v < x.v
      · rw [if_pos hv, getL_yes hA rfl]
        simp only [Option.map_some, maxV]
        congr 1
        omega
      · rw [if_neg hv, getL_yes hA hy]
        simp only [Option.map_some, maxV]
        congr 1
        omega
    · rw [if_neg hb]
      unfold getV getL
      rw [List.find?_append, List.find?_append, List.find?_cons_of_neg (by split <;> first | (simpa using hb) | (rw [hy]; simpa using hb)), List.find?_cons_of_neg (by rw [hy]; simpa using hb)]
/-- one more, as its versions are seen -/
noncomputable def stepV (s : Int → Option Int) (x : HI) (b : Int) : Option Int := if (mB x.v x.d && inB x.b) = true ∧ x.b = b then maxV (s b) x.v else s b
theorem stepV_comm (s : Int → Option Int) (x y : HI) : stepV (stepV s x) y = stepV (stepV s y) x := by
  funext b
  unfold stepV
  split <;> split <;> first | rfl | exact maxV_comm _ _ _ | rfl
theorem getV_put {l : List HI} (h : Srt l) (x : HI) : getV (putB l x) = stepV (getV l) x := by
  funext b
  unfold putB putL stepV
  by_cases hm : (mB x.v x.d && inB x.b) = true
  · rw [if_pos hm, getL_lay h]
    by_cases hb : x.b = b
    · rw [if_pos hb, if_pos ⟨hm, hb⟩]
    · rw [if_neg hb, if_neg (fun q => hb q.2)]
  · rw [if_neg hm, if_neg (fun q => hm q.1)]
theorem getV_putAll {xs : List HI} : ∀ {l : List HI}, Srt l → (∀ x ∈ xs, Ok x) → getV (putAll l xs) = xs.foldl stepV (getV l) := by
  induction xs with
  | nil => intro l _ _; rfl
  | cons x t ih =>
    intro l h ho
    have := ih (srt_put h (ho x (by simp))) (fun y hy => ho y (by simp [hy]))
    rw [getV_put h] at this
    exact this
theorem getV_perm {xs ys : List HI} (hp : xs.Perm ys) (ho : ∀ x ∈ xs, Ok x) : getV (putAll [] xs) = getV (putAll [] ys) := by
  rw [getV_putAll Srt.nil ho, getV_putAll Srt.nil (fun y hy => ho y (hp.mem_iff.2 hy))]
  exact hp.foldl_eq' (fun x _ y _ z => stepV_comm z x y) _
def bv (l : List HI) : List (Int × Int) := l.map fun h => (h.b, h.v)
theorem getV_head (h : HI) (t : List HI) : getV (h :: t) h.b = some h.v := by simp [getV, getL]
theorem getV_tail {h : HI} {t : List HI} {b : Int} (hb : h.b ≠ b) : getV (h :: t) b = getV t b := by simp [getV, getL, hb]
theorem getV_none {t : List HI} {b : Int} (h : ∀ y ∈ t, b < y.b) : getV t b = none := by
  unfold getV
  rw [get_none (fun y hy => by have := h y hy; omega)]
  rfl
theorem bv_same : ∀ (l m : List HI), l.Pairwise (fun x y => x.b < y.b) → m.Pairwise (fun x y => x.b < y.b) → (∀ b, getV l b = getV m b) → bv l = bv m
  | [], [], _, _, _ => rfl
  | [], k :: s, _, _, h => by
    have := h k.b
    rw [getV_head] at this
    simp [getV, getL] at this
  | x :: t, [], _, _, h => by
    have := h x.b
    rw [getV_head] at this
    simp [getV, getL] at this
  | x :: t, k :: s, hl, hm, h => by
    rw [List.pairwise_cons] at hl hm
    have hb : x.b = k.b := by
      rcases Int.lt_trichotomy x.b k.b with q | q | q
      · have := h x.b
        rw [getV_head, getV_none (fun y hy => by rcases List.mem_cons.1 hy with rfl | hy; exact q; have := hm.1 y hy; omega)] at this
        cases this
      · exact q
      · have := h k.b
        rw [getV_head, getV_none (fun y hy => by rcases List.mem_cons.1 hy with rfl | hy; exact q; have := hl.1 y hy; omega)] at this
        cases this
    have hv : x.v = k.v := by
      have := h x.b
      rw [getV_head, hb, getV_head] at this
      exact Option.some.inj this
    have ht : bv t = bv s := bv_same t s hl.2 hm.2 fun b => by
      by_cases q : x.b = b
      · subst q
        rw [getV_none hl.1, getV_none (by rw [hb]; exact hm.1)]
      · have := h b
        rwa [getV_tail q, getV_tail (by rw [← hb]; exact q)] at this
    show (x.b, x.v) :: bv t = (k.b, k.v) :: bv s
    rw [hb, hv, ht]
theorem bv_at {l m : List HI} (h : bv l = bv m) {j : Nat} {x : HI} (hx : l[j]? = some x) : ∃ y, m[j]? = some y ∧ y.b = x.b ∧ y.v = x.v := by
  have h1 : (bv m)[j]? = some (x.b, x.v) := by rw [← h]; simp [bv, hx]
  simp only [bv, List.getElem?_map, Option.map_eq_some_iff, Prod.mk.injEq] at h1
  obtain ⟨y, q1, q2, q3⟩ := h1
  exact ⟨y, q1, q2, q3⟩
theorem bv_len {l m : List HI} (h : bv l = bv m) : l.length = m.length := by
  have := congrArg List.length h
  simpa [bv] using this
theorem merge_both (x y : List HI) (hx : ∀ h ∈ x, Ok h) (hy : ∀ h ∈ y, Ok h) : bv (putAll [] (x ++ y)) = bv (putAll [] (y ++ x)) := by
  have ho : ∀ h ∈ x ++ y, Ok h := fun h hh => by rcases List.mem_append.1 hh with q | q; exact hx h q; exact hy h q
  have ho' : ∀ h ∈ y ++ x, Ok h := fun h hh => by rcases List.mem_append.1 hh with q | q; exact hy h q; exact hx h q
  exact bv_same _ _ (srt_putAll Srt.nil ho).pw (srt_putAll Srt.nil ho').pw (fun b => congrFun (getV_perm List.perm_append_comm ho) b)
end Go.Proofs.Ytoonlhjldkkanaa
