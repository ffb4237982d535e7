/-
  Several texts, laid together.
-/
import Derived.Test.YtgnnijpfkgmomaaGreatDoorMh1
/-
  NumPuts' walk.
-/


namespace Go.Proofs.YtgnnijpfkgmomaaGreatDoor
open Go.RowKit
set_option linter.unusedVariables false

theorem bytes_list (s : ByteArray) : s = ⟨s.data.toList.toArray⟩ := by cases s; simp
theorem wf_u64 {n : Int} (h : (Lit.int .u64 n).wf = true) : U64 n := by
  simp [Lit.wf, IntKind.min, IntKind.max, IntKind.signed, IntKind.bits] at h
  exact ⟨by omega, by omega⟩
theorem wf_i64 {n : Int} (h : (Lit.int .i64 n).wf = true) : -9223372036854775808 ≤ n ∧ n ≤ 9223372036854775807 := by
  simp [Lit.wf, IntKind.min, IntKind.max, IntKind.signed, IntKind.bits] at h
  omega
/-- a row that came in, cut to its first k elements -/
theorem RowOf.ints {w : World} {a : Option Addr} {len cap : Nat} {zs : List Int} (h : RowOf .i64 w a len cap zs) (k : Nat) (hk : k ≤ len) :
    ∃ l : List Int, l = zs.take k ∧ l.length = k ∧ (∀ x ∈ l, -9223372036854775808 ≤ x ∧ x ≤ 9223372036854775807) ∧ (k = 0 ∨ ∃ b off, a = some ⟨b, off, none⟩ ∧ b < w.heap.size ∧ ∀ j, j < k → w.cell? ⟨b, off + j, none⟩ = some (.int .i64 (l.getD j 0))) := by
  refine ⟨zs.take k, rfl, ?_, ?_, ?_⟩
  · rcases h with ⟨rfl, rfl, rfl, rfl⟩ | ⟨x, rfl, hl, hm, hz, _⟩
    · obtain rfl : k = 0 := by omega
      rfl
    · rw [List.length_take]; omega
  · intro x hx
    rcases h with ⟨rfl, rfl, rfl, rfl⟩ | ⟨y, rfl, hl, hm, hz, hc, hw⟩
    · simp at hx
    · exact wf_i64 (hw x (List.mem_of_mem_take hx))
  · by_cases h0 : k = 0
    · exact .inl h0
    · right
      rcases h with ⟨rfl, rfl, rfl, rfl⟩ | ⟨⟨b, off, spot⟩, rfl, hl, hm, hz, hc, hw⟩
      · omega
      · have c0 := hc 0 (by omega)
        have hs : spot = none := by
          have := World.cell?_spot c0
          simpa [Addr.add] using this
        subst hs
        have hb : b < w.heap.size := by
          have := World.block_lt_of_cell? w _ c0
          simpa [Addr.add] using this
        refine ⟨b, off, rfl, hb, fun j hj => ?_⟩
        have hcj := hc j (by omega)
        have ha : (⟨b, off, none⟩ : Addr).add j = ⟨b, off + j, none⟩ := by unfold Addr.add; split <;> simp_all
        rw [ha] at hcj
        rw [hcj]
        simp [List.getD, hj]
theorem Ints.below {w w' : World} {v : Value} {zs : List Int} (h : Ints w v zs) (hb : Below w.heap.size w w') : Ints w' v zs := by
  obtain ⟨a, cap, rfl, hm, hc⟩ := h
  refine ⟨a, cap, rfl, hm, hc.imp id ?_⟩
  rintro ⟨b, off, rfl, hlt, hcell⟩
  exact ⟨b, off, rfl, Nat.lt_of_lt_of_le hlt hb.size, fun j hj => by rw [hb.cell hlt]; exact hcell j hj⟩
end Go.Proofs.YtgnnijpfkgmomaaGreatDoor
/-
  What was put is taken again: plain facts; NumBack's walk.
-/

namespace Go.Proofs.YtgnnijpfkgmomaaGreatDoor
open Go.RowKit
set_option linter.unusedVariables false

theorem takeB_ok (s : List UInt8) (n : Nat) (h : n ≤ s.length) : (⟨s, 0⟩ : RS).takeB (n : Int) = s.take n := by
  have : ¬ ((n : Int) < 0 ∨ (s.length : Int) < n) := by omega
  rw [RS.takeB, if_neg (by simp), if_neg this]
  simp
theorem takeS_ok (s : List UInt8) (n : Nat) (h : n ≤ s.length) : (⟨s, 0⟩ : RS).takeS (n : Int) = ⟨s.drop n, 0⟩ := by
  have : ¬ ((n : Int) < 0 ∨ (s.length : Int) < n) := by omega
  rw [RS.takeS, if_neg (by simp), if_neg this]
  simp
theorem num_head (c : UInt8) (s : List UInt8) (L : Nat) (hc : c.toNat ≤ 8) (hs : c.toNat ≤ s.length) :
    (⟨c :: s, 0⟩ : RS).numV L = numV2 (s.take c.toNat) L ∧ (⟨c :: s, 0⟩ : RS).numS L = numS2 ⟨s.drop c.toNat, 0⟩ (s.take c.toNat) L := by
  have b1 : (⟨c :: s, 0⟩ : RS).takeB 1 = [c] := takeB_ok (c :: s) 1 (by simp)
  have s1 : (⟨c :: s, 0⟩ : RS).takeS 1 = ⟨s, 0⟩ := takeS_ok (c :: s) 1 (by simp)
  have hn : ¬ 8 < c.toNat := by omega
  constructor
  · rw [RS.numV, b1, s1, numV1, if_neg (by simp)]
    show (if 8 < c.toNat then 0 else numV2 ((⟨s, 0⟩ : RS).takeB c.toNat) L) = _
    rw [if_neg hn, takeB_ok s _ hs]
  · rw [RS.numS, b1, s1, numS1, if_neg (by simp)]
    show (if 8 < c.toNat then (⟨s, 0⟩ : RS).fail 3 else numS2 ((⟨s, 0⟩ : RS).takeS c.toNat) ((⟨s, 0⟩ : RS).takeB c.toNat) L) = _
    rw [if_neg hn, takeB_ok s _ hs, takeS_ok s _ hs]
theorem num_put (n : Nat) (h : n < 18446744073709551616) (rest : List UInt8) (L : Nat) (hL : n ≤ L) :
    (⟨putN n ++ rest, 0⟩ : RS).numV L = n ∧ (⟨putN n ++ rest, 0⟩ : RS).numS L = ⟨rest, 0⟩ := by
  have hl := needN_le n h
  have hc : (UInt8.ofNat (needN n)).toNat = needN n := by simp; omega
  have hlen : (hiN n).length = needN n := hiN_length n
  have e : putN n ++ rest = UInt8.ofNat (needN n) :: (hiN n ++ rest) := rfl
  have ht : (hiN n ++ rest).take (needN n) = hiN n := by rw [← hlen]; exact List.take_left
  have hd : (hiN n ++ rest).drop (needN n) = rest := by rw [← hlen]; exact List.drop_left
  obtain ⟨h1, h2⟩ := num_head (UInt8.ofNat (needN n)) (hiN n ++ rest) L (by omega) (by rw [hc, List.length_append]; omega)
  rw [e, h1, h2, hc, ht, hd]
  by_cases h0 : n = 0
  · subst h0
    rw [hiN_zero]
    exact ⟨rfl, rfl⟩
  · obtain ⟨c, l, hcl, hcn⟩ := hiN_head n h0 h
    have hv := valN_hiN n h
    rw [hcl] at hv ⊢
    have : ¬ ((c :: l).getD 0 0 = 0 ∨ L < valN (c :: l)) := by
      rw [hv]
      intro hx
      exact hx.elim (fun e => hcn (by simpa using e)) (by omega)
    rw [numV2, numS2, if_neg (by simp), if_neg this, if_neg (by simp), if_neg this]
    exact ⟨hv, rfl⟩
theorem text_put (b rest : List UInt8) (L : Int) (hL : b.length ≤ L) (h16 : b.length ≤ 65536) :
    (⟨putN b.length ++ b ++ rest, 0⟩ : RS).textB L = b ∧ (⟨putN b.length ++ b ++ rest, 0⟩ : RS).textS L = ⟨rest, 0⟩ := by
  obtain ⟨h1, h2⟩ := num_put b.length (by omega) (b ++ rest) (min L 65536).toNat (by omega)
  rw [RS.textB, RS.textS, List.append_assoc, h1, h2, takeB_ok _ _ (by simp), takeS_ok _ _ (by simp)]
  exact ⟨List.take_left, by rw [List.drop_left]⟩
theorem word_put (n : Nat) (h : n ≤ 4294967295) (rest : List UInt8) : (⟨beN 4 n ++ rest, 0⟩ : RS).wordV = n ∧ (⟨beN 4 n ++ rest, 0⟩ : RS).takeS 4 = ⟨rest, 0⟩ := by
  have hl : (beN 4 n).length = 4 := beN_length 4 n
  have b1 := takeB_ok (beN 4 n ++ rest) 4 (by rw [List.length_append]; omega)
  have s1 := takeS_ok (beN 4 n ++ rest) 4 (by rw [List.length_append]; omega)
  have ht : (beN 4 n ++ rest).take 4 = beN 4 n := by rw [← hl]; exact List.take_left
  have hd : (beN 4 n ++ rest).drop 4 = rest := by rw [← hl]; exact List.drop_left
  refine ⟨?_, by rw [show (4 : Int) = ((4 : Nat) : Int) from rfl, s1, hd]⟩
  rw [RS.wordV, show (4 : Int) = ((4 : Nat) : Int) from rfl, b1, ht, valN_beN, Nat.mod_eq_of_lt (by omega)]
def flatN (l : List Int) : List UInt8 := l.flatMap fun x => putN x.toNat
theorem ints_put (l : List Int) (rest : List UInt8) (L : Nat) (hl : ∀ x ∈ l, 0 ≤ x ∧ x ≤ (L : Int)) (hL : L < 18446744073709551616) (k : Nat) (hk : k ≤ l.length) :
    intsR ⟨flatN l ++ rest, 0⟩ L k = (⟨flatN (l.drop k) ++ rest, 0⟩, l.take k) := by
  induction k with
  | zero => simp [intsR]
  | succ k ih =>
    have hlt : k < l.length := by omega
    have hx := hl l[k] (List.getElem_mem hlt)
    have hd : l.drop k = l[k] :: l.drop (k + 1) := List.drop_eq_getElem_cons hlt
    have e : flatN (l.drop k) ++ rest = putN l[k].toNat ++ (flatN (l.drop (k + 1)) ++ rest) := by rw [hd, flatN, List.flatMap_cons, List.append_assoc]; rfl
    obtain ⟨h1, h2⟩ := num_put l[k].toNat (by omega) (flatN (l.drop (k + 1)) ++ rest) L (by omega)
    rw [intsR, ih (by omega), if_neg (by simp)]
    simp only
    rw [e, h1, h2, List.take_succ_eq_append_getElem hlt, Int.toNat_of_nonneg hx.1]
theorem list_put (l : List Int) (rest : List UInt8) (many limit : Int) (hm : l.length ≤ many) (hL : limit ≤ 9223372036854775807) (hl : ∀ x ∈ l, 0 ≤ x ∧ x ≤ limit) (hn : l.length ≤ 1000) :
    (⟨listN l ++ rest, 0⟩ : RS).listV many limit = l ∧ (⟨listN l ++ rest, 0⟩ : RS).listS many limit = ⟨rest, 0⟩ := by
  obtain ⟨h1, h2⟩ := num_put l.length (by omega) (flatN l ++ rest) many.toNat (by omega)
  have e : listN l ++ rest = putN l.length ++ (flatN l ++ rest) := by simp [listN, flatN]
  have hi := ints_put l rest limit.toNat (fun x hx => ⟨(hl x hx).1, by have := hl x hx; omega⟩) (by omega) l.length (Nat.le_refl _)
  have hS : (⟨listN l ++ rest, 0⟩ : RS).listS many limit = ⟨rest, 0⟩ := by
    rw [RS.listS, e, h1, h2, hi]
    simp [flatN]
  refine ⟨?_, hS⟩
  rw [RS.listV, hS, if_neg (by simp), e, h1, h2, hi]
  simp

theorem num_long (l : List UInt8) (h : l.length ≤ 7) (L : Nat) :
    (⟨UInt8.ofNat (l.length + 1) :: 0 :: l, 0⟩ : RS).numV L = 0 ∧ (⟨UInt8.ofNat (l.length + 1) :: 0 :: l, 0⟩ : RS).numS L = ⟨[], 3⟩ := by
  have hc : (UInt8.ofNat (l.length + 1)).toNat = l.length + 1 := by simp; omega
  obtain ⟨h1, h2⟩ := num_head (UInt8.ofNat (l.length + 1)) (0 :: l) L (by omega) (by rw [hc]; simp)
  rw [h1, h2, hc]
  have ht : (0 :: l).take (l.length + 1) = 0 :: l := List.take_of_length_le (by simp)
  rw [ht, numV2, numS2]
  simp [RS.fail]
theorem Src.other {w w' : World} {b c : Nat} {r : RS} (h : Src w c r) (ho : Only b w w') (hne : c ≠ b) : Src w' c r := (ho.block c h.lt hne).trans h
/-- bits of the lower 24 -/
theorem and24 (x : Int) : bits .and .i64 x 16777215 = x % 16777216 := by
  have hm : (BitVec.ofInt 64 16777215).toNat = 2 ^ 24 - 1 := by decide
  have hk : (BitVec.ofInt 64 x &&& BitVec.ofInt 64 16777215).toNat = (x % ((2 ^ 64 : Nat) : Int)).toNat % 2 ^ 24 := by
    rw [BitVec.toNat_and, BitVec.toNat_ofInt, hm, Nat.and_two_pow_sub_one_eq_mod]
  show IntKind.i64.wrap ((BitVec.ofInt 64 x &&& BitVec.ofInt 64 16777215).toNat : Nat) = x % 16777216
  rw [hk, IntKind.wrap_i64]
  omega
/-- a slice of the call's own reads as its numbers -/
theorem Ints.owned {w : World} {base : Nat} {v : Value} {l : List Int} (h : w.ownsRow base 3 1 v l.length (iCells l)) (hl : l.length ≤ 9223372036854775807) : Ints w v l := by
  rcases h.2 with ⟨rfl, hn⟩ | ⟨g, cap, cur, rfl, hb, hg, hnc, hcm, hcs, ht⟩
  · exact ⟨none, 0, by rw [hn], hl, .inl (List.eq_nil_of_length_eq_zero hn)⟩
  · refine ⟨some ⟨g, 0, none⟩, cap, rfl, hl, .inr ⟨g, 0, rfl, lt_heap hg, fun j hj => ?_⟩⟩
    have hc := h.cells (g := g) rfl j (.int .i64 (l.getD j 0)) (by simp [iCells, List.getD, hj])
    have ha : (⟨g, 0, none⟩ : Addr).add j = ⟨g, 0 + j, none⟩ := by unfold Addr.add; split <;> simp_all
    rw [← ha]
    exact hc

end Go.Proofs.YtgnnijpfkgmomaaGreatDoor
