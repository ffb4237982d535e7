/-
  A disk as bytes; area.Write: the bytes are laid, piece by piece, and nothing else turns.
-/
import Derived.Test.YtbmjkieikaapfaaArea
namespace Go.Proofs.Ytbmjkieikaapfaa
open Go.RowKit
set_option linter.unusedVariables false
set_option linter.unusedSimpArgs false

theorem app_l (a b : ByteArray) : (a ++ b).data.toList = a.data.toList ++ b.data.toList := by simp
theorem ext_l (s : ByteArray) (a b : Nat) : (s.extract a b).data.toList = (s.data.toList.drop a).take (b - a) := Lib.extract_data s a b
theorem ext_sz (s : ByteArray) (a b : Nat) (h : b ≤ s.size) : (s.extract a b).size = b - a := by simp [ByteArray.size_extract, Nat.min_eq_left h]
def atB (s : ByteArray) (j : Nat) : UInt8 := s.data.toList.getD j 0
/-- the disk's j-th byte -/
def flatD (S : List ByteArray) (L : List (Nat × ByteArray)) (j : Nat) : UInt8 := atB (curD S L (j / 64)) (j % 64)
theorem curD_snoc (S : List ByteArray) (L : List (Nat × ByteArray)) (k : Nat) (x : ByteArray) (i : Nat) : curD S (L ++ [(k, x)]) i = if k = i then x else curD S L i := by
  unfold curD
  rw [List.reverse_append]
  show (match List.find? _ ((k, x) :: L.reverse) with | some x => x.2 | none => _) = _
  by_cases h : k = i
  · simp [h]
  · simp [h]
    rfl
theorem curD_size {S : List ByteArray} {L : List (Nat × ByteArray)} (hS : ∀ s ∈ S, s.size = 64) (hL : ∀ x ∈ L, x.1 < S.length ∧ x.2.size = 64) (i : Nat) (hi : i < S.length) : (curD S L i).size = 64 := by
  unfold curD
  split
  · rename_i x hx
    exact (hL x (List.mem_reverse.1 (List.mem_of_find?_eq_some hx))).2
  · rw [List.getD_eq_getElem?_getD, List.getElem?_eq_getElem hi]
    exact hS _ (List.getElem_mem _)
theorem atB_app (a b : ByteArray) (j : Nat) : atB (a ++ b) j = if j < a.size then atB a j else atB b (j - a.size) := by
  unfold atB
  rw [app_l, List.getD_eq_getElem?_getD, List.getElem?_append]
  show (if j < a.size then _ else _ : Option UInt8).getD 0 = _
  split
  · rfl
  · rfl
theorem atB_ext (s : ByteArray) (a b j : Nat) (hj : j < b - a) : atB (s.extract a b) j = atB s (a + j) := by
  unfold atB
  rw [ext_l, List.getD_eq_getElem?_getD, List.getElem?_take, if_pos hj, List.getElem?_drop, ← List.getD_eq_getElem?_getD]
/-- a sector of which a piece is another one -/
def spliceB (x s : ByteArray) (i m : Nat) : ByteArray := x.extract 0 i ++ s.extract 0 m ++ x.extract (i + m) 64
theorem splice_size (x s : ByteArray) (i m : Nat) (hx : x.size = 64) (hm : i + m ≤ 64) (hs : m ≤ s.size) : (spliceB x s i m).size = 64 := by
  unfold spliceB
  rw [ByteArray.size_append, ByteArray.size_append, ext_sz x 0 i (by omega), ext_sz s 0 m hs, ext_sz x (i + m) 64 (by omega)]
  omega
theorem splice_at (x s : ByteArray) (i m j : Nat) (hx : x.size = 64) (hm : i + m ≤ 64) (hs : m ≤ s.size) (hj : j < 64) : atB (spliceB x s i m) j = if i ≤ j ∧ j < i + m then atB s (j - i) else atB x j := by
  unfold spliceB
  rw [atB_app, atB_app, ByteArray.size_append, ext_sz x 0 i (by omega), ext_sz s 0 m hs]
  by_cases h1 : j < i
  · rw [if_pos (by omega), if_pos (by omega), if_neg (by omega), atB_ext x 0 i j (by omega), Nat.zero_add]
  · by_cases h2 : j < i + m
    · rw [if_pos (by omega), if_neg (by omega), if_pos ⟨by omega, h2⟩, atB_ext s 0 m _ (by omega), Nat.zero_add]
      rfl
    · rw [if_neg (by omega), if_neg (by omega), atB_ext x (i + m) 64 _ (by omega)]
      congr 1
      omega
/-- where a writing from a byte B on, of n bytes of s, has come after k of them -/
structure Laid (S : List ByteArray) (L L2 : List (Nat × ByteArray)) (B n k : Nat) (s : ByteArray) : Prop where
  flat : ∀ j, flatD S L2 j = if B ≤ j ∧ j < B + k then atB s (j - B) else flatD S L j
  more : ∃ M, L2 = L ++ M ∧ M.length ≤ k ∧ ∀ x ∈ M, ∀ j, j < 64 → ¬ (B ≤ 64 * x.1 + j ∧ 64 * x.1 + j < B + n) → atB x.2 j = flatD S L (64 * x.1 + j)
  cnt : k = 0 ∧ L2.length = L.length ∨ 0 < k ∧ L2.length = L.length + ((B + k - 1) / 64 - B / 64 + 1)
  al : k < n → k = 0 ∨ (B + k) % 64 = 0
theorem Laid.start (S : List ByteArray) (L : List (Nat × ByteArray)) (B n : Nat) (s : ByteArray) : Laid S L L B n 0 s :=
  ⟨fun j => by rw [if_neg (by omega)], ⟨[], by simp, Nat.le_refl _, by simp⟩, .inl ⟨rfl, rfl⟩, fun _ => .inl rfl⟩
theorem Laid.step {S : List ByteArray} {L L2 : List (Nat × ByteArray)} {B n k m : Nat} {s : ByteArray} (h : Laid S L L2 B n k s) (hS : ∀ s ∈ S, s.size = 64) (hL : ∀ x ∈ L2, x.1 < S.length ∧ x.2.size = 64) (hk : k + m ≤ n) (hm : 0 < m) (hin : (B + k) % 64 + m ≤ 64) (hsec : (B + k) / 64 < S.length) (hs : n ≤ s.size) (hal : k + m < n → (B + k + m) % 64 = 0) :
    Laid S L (L2 ++ [((B + k) / 64, spliceB (curD S L2 ((B + k) / 64)) (s.extract k s.size) ((B + k) % 64) m)]) B n (k + m) s := by
  have hc := curD_size hS hL _ hsec
  have hes : m ≤ (s.extract k s.size).size := by rw [ext_sz _ _ _ (Nat.le_refl _)]; omega
  obtain ⟨M, hM, hMl, hMx⟩ := h.more
  have hnew : ∀ q, q < 64 → atB (spliceB (curD S L2 ((B + k) / 64)) (s.extract k s.size) ((B + k) % 64) m) q = if B + k ≤ 64 * ((B + k) / 64) + q ∧ 64 * ((B + k) / 64) + q < B + k + m then atB s (64 * ((B + k) / 64) + q - B) else flatD S L2 (64 * ((B + k) / 64) + q) := by
    intro q hq
    rw [splice_at _ _ _ _ _ hc hin hes hq]
    by_cases hc1 : (B + k) % 64 ≤ q ∧ q < (B + k) % 64 + m
    · rw [if_pos hc1, if_pos (by omega), atB_ext _ _ _ _ (by omega)]
      congr 1
      omega
    · rw [if_neg hc1, if_neg (by omega)]
      unfold flatD
      rw [show (64 * ((B + k) / 64) + q) / 64 = (B + k) / 64 by omega, show (64 * ((B + k) / 64) + q) % 64 = q by omega]
  refine ⟨fun j => ?_, ⟨M ++ [((B + k) / 64, spliceB (curD S L2 ((B + k) / 64)) (s.extract k s.size) ((B + k) % 64) m)], by rw [hM, List.append_assoc], by simp; omega, ?_⟩, ?_, fun h => .inr (by have := hal h; omega)⟩
  · unfold flatD
    rw [curD_snoc]
    by_cases hj : (B + k) / 64 = j / 64
    · rw [if_pos hj, hnew (j % 64) (Nat.mod_lt _ (by omega)), show 64 * ((B + k) / 64) + j % 64 = j by omega, h.flat j]
      by_cases h1 : B + k ≤ j ∧ j < B + k + m
      · rw [if_pos h1, if_pos (by omega)]
      · rw [if_neg h1]
        by_cases h2 : B ≤ j ∧ j < B + k
        · rw [if_pos h2, if_pos (by omega)]
        · rw [if_neg h2, if_neg (by omega)]
          rfl
    · rw [if_neg hj]
      have := h.flat j
      unfold flatD at this
      rw [this]
      by_cases h2 : B ≤ j ∧ j < B + k
      · rw [if_pos h2, if_pos (by omega)]
      · rw [if_neg h2, if_neg (by omega)]
  · intro x hx j hj hout
    rcases List.mem_append.1 hx with hx | hx
    · exact hMx x hx j hj hout
    · simp only [List.mem_singleton] at hx
      subst hx
      simp only at hout ⊢
      rw [hnew j hj, if_neg (by omega), h.flat, if_neg (by omega)]
  · right
    refine ⟨by omega, ?_⟩
    rw [List.length_append]
    show L2.length + 1 = _
    have ha := h.al (by omega)
    rcases h.cnt with ⟨h0, hc⟩ | ⟨h0, hc⟩
    · subst h0; omega
    · have : (B + k) % 64 = 0 := by omega
      omega
/-- a disk's sector as it is read; where there is none, nothing -/
def rdI (S : List ByteArray) (L : List (Nat × ByteArray)) (i : Int) : ByteArray := if 0 ≤ i ∧ i < S.length then curD S L i.toNat else ⟨#[]⟩
def erI (S : List ByteArray) (i : Int) : Int := if 0 ≤ i ∧ i < S.length then 0 else 1
theorem read_any (i : Int) (w : World) (N p : Nat) (sv lv : Value) (S : List ByteArray) (L : List (Nat × ByteArray)) (h : Dsk w N p sv lv S L) (hL : L.length ≤ 1000000000) : Calls Try.prog 14 #[.pointer (some ⟨p, 0, none⟩), .int .i64 i] w fun e w' => e = .returned (.tuple #[.string (rdI S L i), .int .i64 (erI S i)]) ∧ Below w.heap.size w w' := by
  unfold rdI erI
  by_cases hg : 0 ≤ i ∧ i < S.length
  · rw [if_pos hg, if_pos hg]
    obtain ⟨n, rfl⟩ : ∃ n : Nat, i = n := ⟨i.toNat, by omega⟩
    exact dread n w N p sv lv S L h (by omega) hL
  · rw [if_neg hg, if_neg hg]
    exact dread_none i w N p sv lv S L h hg
end Go.Proofs.Ytbmjkieikaapfaa
