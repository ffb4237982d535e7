/-
  What two lists of items hold unlike, as plain lists. Of no program.
-/
import Derived.Test.YtoonlhjldkkanaaMrg
namespace Go.Proofs.Ytoonlhjldkkanaa
open Go.RowKit
set_option linter.unusedVariables false
set_option linter.unusedSimpArgs false

/-- all may be -/
def AllM (l : List HI) : Prop := ∀ x ∈ l, mB x.v x.d = true
theorem mem_lay {l : List HI} {x y : HI} (h : y ∈ layL l x) : y ∈ l ∨ y = x := by
  induction l with
  | nil => simp only [layL, List.mem_singleton] at h; exact .inr h
  | cons z t ih =>
    unfold layL at h
    split at h
    · rcases List.mem_cons.1 h with q | q
      · exact .inl (by simp [q])
      · rcases ih q with r | r
        · exact .inl (by simp [r])
        · exact .inr r
    · split at h
      · split at h
        · rcases List.mem_cons.1 h with q | q
          · exact .inr q
          · exact .inl (by simp [q])
        · exact .inl h
      · rcases List.mem_cons.1 h with q | q
        · exact .inr q
        · exact .inl q
theorem allM_put {l : List HI} {x : HI} (h : AllM l) : AllM (putB l x) := by
  unfold putB putL
  split
  · rename_i hm
    rw [Bool.and_eq_true] at hm
    intro y hy
    rcases mem_lay hy with q | q
    · exact h y q
    · rw [q]; exact hm.1
  · exact h
theorem allM_putAll {xs : List HI} : ∀ {l : List HI}, AllM l → AllM (putAll l xs) := by
  induction xs with
  | nil => intro l h; exact h
  | cons x t ih => intro l h; exact ih (allM_put h)
theorem good_in {x : HI} (h : Good x) : inB x.b = true := by simp [inB, h.1, h.2.1]
theorem of_more {B : List HI} : ∀ {A : List HI}, Srt (A ++ B) → AllM B → putAll A B = A ++ B := by
  induction B with
  | nil => intro A _ _; simp [putAll]
  | cons x t ih =>
    intro A hs hm
    have h1 : putB A x = A ++ [x] := by
      unfold putB putL
      rw [hm x (by simp), good_in (hs.all x (by simp))]
      have := layL_no (A := A) (B := []) (x := x) (srt_parts hs.pw).1 (by simp)
      simpa using this
    have h2 := ih (A := A ++ [x]) (by simpa using hs) (fun y hy => hm y (by simp [hy]))
    show putAll (putB A x) t = _
    rw [h1, h2]
    simp
theorem of_self {l : List HI} (h : Srt l) (hm : AllM l) : putAll [] l = l := by simpa using of_more (A := []) (B := l) (by simpa using h) hm
theorem sorted_ext : ∀ (l m : List Int), l.Pairwise (· < ·) → m.Pairwise (· < ·) → (∀ x, x ∈ l ↔ x ∈ m) → l = m
  | [], [], _, _, _ => rfl
  | [], k :: s, _, _, h => absurd ((h k).2 (by simp)) (by simp)
  | x :: t, [], _, _, h => absurd ((h x).1 (by simp)) (by simp)
  | x :: t, k :: s, hl, hm, h => by
    rw [List.pairwise_cons] at hl hm
    have e : x = k := by
      have h1 := (h x).1 (by simp)
      have h2 := (h k).2 (by simp)
      rcases List.mem_cons.1 h1 with q | q
      · exact q
      · rcases List.mem_cons.1 h2 with r | r
        · exact r.symm
        · have := hl.1 k r; have := hm.1 x q; omega
    subst e
    congr 1
    refine sorted_ext t s hl.2 hm.2 fun y => ⟨fun hy => ?_, fun hy => ?_⟩
    · rcases List.mem_cons.1 ((h y).1 (by simp [hy])) with q | q
      · have := hl.1 y hy; omega
      · exact q
    · rcases List.mem_cons.1 ((h y).2 (by simp [hy])) with q | q
      · have := hm.1 y hy; omega
      · exact q
/-- the numbers below n of which P is told -/
def upTo (P : Int → Bool) (n : Nat) : List Int := ((List.range n).map fun (i : Nat) => (i : Int)).filter P
theorem upTo_next (P : Int → Bool) (n : Nat) : upTo P (n + 1) = upTo P n ++ (if P n = true then [(n : Int)] else []) := by
  unfold upTo
  rw [List.range_succ, List.map_append, List.filter_append]
  simp only [List.map_cons, List.map_nil, List.filter_cons, List.filter_nil]
theorem upTo_sorted (P : Int → Bool) (n : Nat) : (upTo P n).Pairwise (· < ·) := by
  unfold upTo
  refine List.Pairwise.filter _ (List.pairwise_map.2 (List.pairwise_lt_range.imp fun h => by omega))
theorem mem_upTo {P : Int → Bool} {n : Nat} {x : Int} : x ∈ upTo P n ↔ 0 ≤ x ∧ x < n ∧ P x = true := by
  unfold upTo
  simp only [List.mem_filter, List.mem_map, List.mem_range]
  constructor
  · rintro ⟨⟨i, hi, rfl⟩, h⟩
    exact ⟨by omega, by omega, h⟩
  · rintro ⟨h1, h2, h3⟩
    exact ⟨⟨x.toNat, by omega, by omega⟩, h3⟩
theorem upTo_at (P : Int → Bool) (n N : Nat) (h : n < N) (hp : P n = true) : (upTo P N)[(upTo P n).length]? = some (n : Int) := by
  induction N with
  | zero => omega
  | succ N ih =>
    rw [upTo_next]
    rcases Nat.lt_or_ge n N with q | q
    · have := ih q
      rw [List.getElem?_append_left ((List.getElem?_eq_some_iff.1 this).1)]
      exact this
    · obtain rfl : n = N := by omega
      rw [List.getElem?_append_right (Nat.le_refl _), Nat.sub_self, if_pos hp]
      rfl
theorem upTo_le (P : Int → Bool) (n N : Nat) (h : n ≤ N) : (upTo P n).length ≤ (upTo P N).length := by
  induction N with
  | zero => obtain rfl : n = 0 := by omega
            exact Nat.le_refl _
  | succ N ih =>
    rcases Nat.lt_or_ge n (N + 1) with q | q
    · have := ih (by omega)
      rw [upTo_next, List.length_append]
      omega
    · obtain rfl : n = N + 1 := by omega
      exact Nat.le_refl _
theorem upTo_len (P : Int → Bool) (n : Nat) : (upTo P n).length ≤ n := by
  unfold upTo
  exact Nat.le_trans (List.length_filter_le _ _) (by simp)
/-- of sorted items, the blocks of which P is told: those below 64, if no other block has it -/
theorem blocks_upTo {l : List HI} (hs : Srt l) (P : Int → Bool) (hP : ∀ n, P n = true → ∃ x ∈ l, x.b = n) : (l.filter fun h => P h.b).map (·.b) = upTo P 64 := by
  refine sorted_ext _ _ ?_ (upTo_sorted P 64) fun n => ?_
  · exact List.pairwise_map.2 (hs.pw.filter _)
  · rw [mem_upTo]
    simp only [List.mem_map, List.mem_filter]
    constructor
    · rintro ⟨x, ⟨hx, hp⟩, rfl⟩
      exact ⟨(hs.all x hx).1, (hs.all x hx).2.1, hp⟩
    · rintro ⟨_, _, hp⟩
      obtain ⟨x, hx, rfl⟩ := hP n hp
      exact ⟨x, ⟨hx, hp⟩, rfl⟩
theorem get_mem {l : List HI} (hs : Srt l) {x : HI} (hx : x ∈ l) : getL l x.b = some x := by
  obtain ⟨A, B, e⟩ := List.append_of_mem hx
  subst e
  exact getL_yes (srt_parts hs.pw).1 rfl
theorem mem_get {l : List HI} {b : Int} {x : HI} (h : getL l b = some x) : x ∈ l ∧ x.b = b := by
  refine ⟨List.mem_of_find?_eq_some h, ?_⟩
  have := List.find?_some h
  simpa using this
/-- are two lists unlike at a block? -/
def dif (A B : List HI) (n : Int) : Bool := decide (¬ ((getL A n).isSome = (getL B n).isSome ∧ gv (getL A n) = gv (getL B n) ∧ gd (getL A n) = gd (getL B n)))
/-- have they other bytes of one version? -/
def oddP (A B : List HI) (n : Int) : Bool := (getL A n).isSome && ((getL B n).isSome && (decide (gv (getL B n) = gv (getL A n)) && decide (¬ gd (getL B n) = gd (getL A n))))
theorem dif_some {A B : List HI} {n : Int} (h : dif A B n = true) : (getL A n).isSome = true ∨ (getL B n).isSome = true := by
  unfold dif at h
  cases hA : getL A n with
  | some x => exact .inl rfl
  | none =>
    cases hB : getL B n with
    | some x => exact .inr rfl
    | none => rw [hA, hB] at h; simp at h
theorem stepV_keep {s : Int → Option Int} {x : HI} {b : Int} (h : s b ≠ none) : stepV s x b ≠ none := by
  unfold stepV
  split
  · cases hs : s b <;> simp [maxV]
  · exact h
theorem foldV_keep {xs : List HI} {b : Int} : ∀ {s : Int → Option Int}, s b ≠ none → xs.foldl stepV s b ≠ none := by
  induction xs with
  | nil => intro s h; exact h
  | cons x t ih => intro s h; exact ih (stepV_keep h)
theorem foldV_mem {xs : List HI} {x : HI} : ∀ {s : Int → Option Int}, x ∈ xs → (mB x.v x.d && inB x.b) = true → xs.foldl stepV s x.b ≠ none := by
  induction xs with
  | nil => intro s h _; cases h
  | cons y t ih =>
    intro s h hm
    rcases List.mem_cons.1 h with q | q
    · subst q
      refine foldV_keep (s := stepV s x) ?_
      unfold stepV
      rw [if_pos ⟨hm, rfl⟩]
      cases hs : s x.b <;> simp [maxV]
    · exact ih (s := stepV s y) q hm
/-- whatever block one of them has, both together have -/
theorem merged_has {xs : List HI} (ho : ∀ x ∈ xs, Ok x) {x : HI} (hx : x ∈ xs) (hg : Good x) (hm : mB x.v x.d = true) : ∃ y ∈ putAll [] xs, y.b = x.b := by
  have h1 : getV (putAll [] xs) x.b ≠ none := by
    rw [getV_putAll Srt.nil ho]
    exact foldV_mem hx (by rw [hm, good_in hg]; rfl)
  unfold getV at h1
  cases hg2 : getL (putAll [] xs) x.b with
  | none => rw [hg2] at h1; exact absurd rfl h1
  | some y =>
    obtain ⟨h2, h3⟩ := mem_get hg2
    exact ⟨y, h2, h3⟩
theorem dif_blocks {A B : List HI} (hA : Srt A) (hB : Srt B) (mA : AllM A) (mB' : AllM B) : ((putAll [] (A ++ B)).filter fun h => dif A B h.b).map (·.b) = upTo (dif A B) 64 := by
  have ho : ∀ h ∈ A ++ B, Ok h := fun h hh => by rcases List.mem_append.1 hh with q | q; exact hA.ok h q; exact hB.ok h q
  refine blocks_upTo (srt_putAll Srt.nil ho) _ fun n hn => ?_
  rcases dif_some hn with q | q
  · obtain ⟨x, hx⟩ := Option.isSome_iff_exists.1 q
    obtain ⟨h1, h2⟩ := mem_get hx
    obtain ⟨y, h3, h4⟩ := merged_has ho (x := x) (by simp [h1]) (hA.all x h1) (mA x h1)
    exact ⟨y, h3, h4.trans h2⟩
  · obtain ⟨x, hx⟩ := Option.isSome_iff_exists.1 q
    obtain ⟨h1, h2⟩ := mem_get hx
    obtain ⟨y, h3, h4⟩ := merged_has ho (x := x) (by simp [h1]) (hB.all x h1) (mB' x h1)
    exact ⟨y, h3, h4.trans h2⟩
theorem odd_blocks {A B : List HI} (hA : Srt A) : (A.filter fun h => oddP A B h.b).map (·.b) = upTo (oddP A B) 64 := by
  refine blocks_upTo hA _ fun n hn => ?_
  unfold oddP at hn
  rw [Bool.and_eq_true] at hn
  obtain ⟨x, hx⟩ := Option.isSome_iff_exists.1 hn.1
  obtain ⟨h1, h2⟩ := mem_get hx
  exact ⟨x, h1, h2⟩
end Go.Proofs.Ytoonlhjldkkanaa
