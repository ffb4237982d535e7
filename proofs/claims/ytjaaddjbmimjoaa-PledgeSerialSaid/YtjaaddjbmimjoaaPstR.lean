/-
  Blocks one behind the other, as one text: a block of it, of the text with another first byte, of the text without its last byte.
-/
import Derived.Test.YtjaaddjbmimjoaaPstQ
namespace Go.Proofs.Ytjaaddjbmimjoaa
open Go.RowKit
set_option linter.unusedVariables false

theorem ext_lP (s : ByteArray) (a b : Nat) : (s.extract a b).data.toList = (s.data.toList.drop a).take (b - a) := Lib.extract_data s a b
theorem app_lP (a b : ByteArray) : (a ++ b).data.toList = a.data.toList ++ b.data.toList := by simp
theorem len_lP (s : ByteArray) : s.data.toList.length = s.size := by show s.data.toList.length = s.data.size; simp
/-- a part of the first of two texts -/
theorem ext_left (s t : ByteArray) (a b : Nat) (h : b ≤ s.size) : (s ++ t).extract a b = s.extract a b := by
  apply str_ext
  rw [ext_lP, ext_lP, app_lP]
  by_cases hab : a ≤ b
  · rw [List.drop_append_of_le_length (by rw [len_lP]; omega), List.take_append_of_le_length (by rw [List.length_drop, len_lP]; omega)]
  · rw [show b - a = 0 by omega, List.take_zero, List.take_zero]
/-- the second of two texts -/
theorem ext_right (s t : ByteArray) (b : Nat) (h : b = s.size + t.size) : (s ++ t).extract s.size b = t := by
  apply str_ext
  rw [ext_lP, app_lP, List.drop_left' (len_lP s), h, Nat.add_sub_cancel_left, List.take_of_length_le (by rw [len_lP]; exact Nat.le_refl _)]
theorem ext_ext (s : ByteArray) (n a b : Nat) (h : b ≤ n) : (s.extract 0 n).extract a b = s.extract a b := by
  apply str_ext
  rw [ext_lP, ext_lP, ext_lP, List.drop_zero, Nat.sub_zero, List.drop_take, List.take_take]
  congr 1
  omega
/-- the first b blocks' bytes; the same with another first byte in block k -/
def catL (L : List ByteArray) : Nat → ByteArray
  | 0 => ⟨#[]⟩
  | b + 1 => catL L b ++ L.getD b ⟨#[]⟩
def badL (L : List ByteArray) (k : Nat) : Nat → ByteArray
  | 0 => ⟨#[]⟩
  | b + 1 => badL L k b ++ (if b = k then ⟨#[255]⟩ ++ (L.getD b ⟨#[]⟩).extract 1 (L.getD b ⟨#[]⟩).size else L.getD b ⟨#[]⟩)
theorem cat_size {L : List ByteArray} (hB : Blks L) : ∀ b, b ≤ L.length → (catL L b).size = 32 * b
  | 0, _ => rfl
  | b + 1, h => by
    have hx : L[b]? = some L[b] := List.getElem?_eq_getElem (by omega)
    have h1 := hB L[b] (List.getElem_mem _)
    show (catL L b ++ L.getD b ⟨#[]⟩).size = _
    rw [List.getD_eq_getElem?_getD, hx, ByteArray.size_append, cat_size hB b (by omega)]
    show 32 * b + L[b].size = _
    omega
theorem bad_size {L : List ByteArray} (k : Nat) (hB : Blks L) : ∀ b, b ≤ L.length → (badL L k b).size = 32 * b
  | 0, _ => rfl
  | b + 1, h => by
    have hx : L[b]? = some L[b] := List.getElem?_eq_getElem (by omega)
    have h1 := hB L[b] (List.getElem_mem _)
    show (badL L k b ++ (if b = k then ⟨#[255]⟩ ++ (L.getD b ⟨#[]⟩).extract 1 (L.getD b ⟨#[]⟩).size else L.getD b ⟨#[]⟩)).size = _
    rw [List.getD_eq_getElem?_getD, hx, ByteArray.size_append, bad_size k hB b (by omega)]
    simp only [Option.getD_some]
    split
    · rw [ByteArray.size_append, ByteArray.size_extract]
      have : (⟨#[255]⟩ : ByteArray).size = 1 := rfl
      omega
    · omega
theorem cat_get {L : List ByteArray} (hB : Blks L) : ∀ n, n ≤ L.length → ∀ b, b < n → L[b]? = some ((catL L n).extract (32 * b) (32 * b + 32))
  | 0, _, b, h => absurd h (Nat.not_lt_zero b)
  | n + 1, hn, b, h => by
    have hx : L[n]? = some L[n] := List.getElem?_eq_getElem (by omega)
    have h1 := hB L[n] (List.getElem_mem _)
    have hs := cat_size hB n (by omega)
    have e : catL L (n + 1) = catL L n ++ L[n] := by show catL L n ++ L.getD n ⟨#[]⟩ = _; rw [List.getD_eq_getElem?_getD, hx]; rfl
    rw [e]
    by_cases hb : b < n
    · rw [ext_left _ _ _ _ (by omega)]
      exact cat_get hB n (by omega) b hb
    · obtain rfl : b = n := by omega
      rw [hx, ← hs, ext_right _ _ _ (by omega)]
theorem bad_get {L : List ByteArray} (k : Nat) (hB : Blks L) : ∀ n, n ≤ L.length → ∀ b, b < n → (badL L k n).extract (32 * b) (32 * b + 32) = if b = k then ⟨#[255]⟩ ++ (L.getD b ⟨#[]⟩).extract 1 (L.getD b ⟨#[]⟩).size else L.getD b ⟨#[]⟩
  | 0, _, b, h => absurd h (Nat.not_lt_zero b)
  | n + 1, hn, b, h => by
    have hs := bad_size k hB n (by omega)
    have hs1 := bad_size k hB (n + 1) hn
    have e : badL L k (n + 1) = badL L k n ++ (if n = k then ⟨#[255]⟩ ++ (L.getD n ⟨#[]⟩).extract 1 (L.getD n ⟨#[]⟩).size else L.getD n ⟨#[]⟩) := rfl
    rw [e] at hs1 ⊢
    rw [ByteArray.size_append] at hs1
    by_cases hb : b < n
    · rw [ext_left _ _ _ _ (by omega)]
      exact bad_get k hB n (by omega) b hb
    · obtain rfl : b = n := by omega
      rw [← hs, ext_right _ _ _ (by omega)]
/-- all of it may be there -/
theorem cat_all {L : List ByteArray} (hB : Blks L) (hL : L.length = 4) : ∀ j, j < 4 → ¬ notB L (catL L 4) j := fun j hj h => by
  have hs := cat_size hB 4 (by omega)
  rcases h with h | h
  · omega
  · exact h (cat_get hB 4 (by omega) j hj)
/-- without the last byte the last block may not -/
theorem cut_all {L : List ByteArray} (hB : Blks L) (hL : L.length = 4) : notB L ((catL L 4).extract 0 127) 3 ∧ ∀ j, j < 3 → ¬ notB L ((catL L 4).extract 0 127) j := by
  have hs := cat_size hB 4 (by omega)
  have hc : ((catL L 4).extract 0 127).size = 127 := by rw [ByteArray.size_extract]; omega
  refine ⟨.inl (by omega), fun j hj h => ?_⟩
  rcases h with h | h
  · omega
  · rw [ext_ext _ _ _ _ (by omega)] at h
    exact h (cat_get hB 4 (by omega) j (by omega))
/-- with another first byte just that block may not -/
theorem bad_all {L : List ByteArray} (k : Nat) (hk : k < 4) (hB : Blks L) (hL : L.length = 4) (hf : L.getD k ⟨#[]⟩ ≠ ⟨#[255]⟩ ++ (L.getD k ⟨#[]⟩).extract 1 (L.getD k ⟨#[]⟩).size) : notB L (badL L k 4) k ∧ ∀ j, j < 4 → j ≠ k → ¬ notB L (badL L k 4) j := by
  have hs := bad_size k hB 4 (by omega)
  have hget : ∀ j, j < 4 → L[j]? = some (L.getD j ⟨#[]⟩) := fun j hj => by
    rw [List.getD_eq_getElem?_getD, List.getElem?_eq_getElem (by omega)]
    rfl
  refine ⟨.inr fun h => ?_, fun j hj hne h => ?_⟩
  · rw [bad_get k hB 4 (by omega) k hk, if_pos rfl, hget k hk] at h
    exact hf (Option.some.inj h)
  · rcases h with h | h
    · omega
    · rw [bad_get k hB 4 (by omega) j hj, if_neg hne, hget j hj] at h
      exact h rfl
end Go.Proofs.Ytjaaddjbmimjoaa
