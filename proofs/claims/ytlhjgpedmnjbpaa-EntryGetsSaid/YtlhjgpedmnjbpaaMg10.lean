/-
  Several texts, laid together.
-/
import Derived.Test.YtlhjgpedmnjbpaaMg9
import Derived.Test.YtlhjgpedmnjbpaaMg1
import Derived.BigQuiet
import Derived.Handy
import Derived.WalkLawsBesides
import Derived.WalkSpells
import Derived.IntWalk
import Derived.Deep.DeepCutAuto
import Derived.Deep.QuietTactic
import Derived.Deep.RegionHeld3
import Derived.Deep.CutBlock
import Derived.Deep.RegionWith
import Derived.StillTailTactics
import Derived.Test.YtlhjgpedmnjbpaaMg6
/-
  What was put is taken again: plain facts; NumBack's walk.
-/

namespace Go.Proofs.Ytlhjgpedmnjbpaa
open Go.RowKit
set_option linter.unusedVariables false

theorem takeB_ok (s : List UInt8) (n : Nat) (h : n ≤ s.length) : (⟨s, 0⟩ : RS).takeB (n : Int) = s.take n := by
  have : ¬ ((n : Int) < 0 ∨ (s.length : Int) < n) := by omega
  rw [RS.takeB, if_neg (by simp), if_neg this]
  simp
theorem takeS_ok (s : List UInt8) (n : Nat) (h : n ≤ s.length) : (⟨s, 0⟩ : RS).takeS (n : Int) = ⟨s.drop n, 0⟩ := by
  have : ¬ ((n : Int) < 0 ∨ (s.length : Int) < n) := by omega
  rw [RS.takeS, if_neg (by simp), if_neg this]
  simp
theorem num_head (c : UInt8) (s : List UInt8) (L : Nat) (hc : c.toNat ≤ 8) (hs : c.toNat ≤ s.length) :
    (⟨c :: s, 0⟩ : RS).numV L = numV2 (s.take c.toNat) L ∧ (⟨c :: s, 0⟩ : RS).numS L = numS2 ⟨s.drop c.toNat, 0⟩ (s.take c.toNat) L := by
  have b1 : (⟨c :: s, 0⟩ : RS).takeB 1 = [c] := takeB_ok (c :: s) 1 (by simp)
  have s1 : (⟨c :: s, 0⟩ : RS).takeS 1 = ⟨s, 0⟩ := takeS_ok (c :: s) 1 (by simp)
  have hn : ¬ 8 < c.toNat := by omega
  constructor
  · rw [RS.numV, b1, s1, numV1, if_neg (by simp)]
    show (if 8 < c.toNat then 0 else numV2 ((⟨s, 0⟩ : RS).takeB c.toNat) L) = _
    rw [if_neg hn, takeB_ok s _ hs]
  · rw [RS.numS, b1, s1, numS1, if_neg (by simp)]
    show (if 8 < c.toNat then (⟨s, 0⟩ : RS).fail 3 else numS2 ((⟨s, 0⟩ : RS).takeS c.toNat) ((⟨s, 0⟩ : RS).takeB c.toNat) L) = _
    rw [if_neg hn, takeB_ok s _ hs, takeS_ok s _ hs]
theorem num_put (n : Nat) (h : n < 18446744073709551616) (rest : List UInt8) (L : Nat) (hL : n ≤ L) :
    (⟨putN n ++ rest, 0⟩ : RS).numV L = n ∧ (⟨putN n ++ rest, 0⟩ : RS).numS L = ⟨rest, 0⟩ := by
  have hl := needN_le n h
  have hc : (UInt8.ofNat (needN n)).toNat = needN n := by simp; omega
  have hlen : (hiN n).length = needN n := hiN_length n
  have e : putN n ++ rest = UInt8.ofNat (needN n) :: (hiN n ++ rest) := rfl
  have ht : (hiN n ++ rest).take (needN n) = hiN n := by rw [← hlen]; exact List.take_left
  have hd : (hiN n ++ rest).drop (needN n) = rest := by rw [← hlen]; exact List.drop_left
  obtain ⟨h1, h2⟩ := num_head (UInt8.ofNat (needN n)) (hiN n ++ rest) L (by omega) (by rw [hc, List.length_append]; omega)
  rw [e, h1, h2, hc, ht, hd]
  by_cases h0 : n = 0
  · subst h0
    rw [hiN_zero]
    exact ⟨rfl, rfl⟩
  · obtain ⟨c, l, hcl, hcn⟩ := hiN_head n h0 h
    have hv := valN_hiN n h
    rw [hcl] at hv ⊢
    have : ¬ ((c :: l).getD 0 0 = 0 ∨ L < valN (c :: l)) := by
      rw [hv]
      intro hx
      exact hx.elim (fun e => hcn (by simpa using e)) (by omega)
    rw [numV2, numS2, if_neg (by simp), if_neg this, if_neg (by simp), if_neg this]
    exact ⟨hv, rfl⟩
theorem text_put (b rest : List UInt8) (L : Int) (hL : b.length ≤ L) (h16 : b.length ≤ 65536) :
    (⟨putN b.length ++ b ++ rest, 0⟩ : RS).textB L = b ∧ (⟨putN b.length ++ b ++ rest, 0⟩ : RS).textS L = ⟨rest, 0⟩ := by
  obtain ⟨h1, h2⟩ := num_put b.length (by omega) (b ++ rest) (min L 65536).toNat (by omega)
  rw [RS.textB, RS.textS, List.append_assoc, h1, h2, takeB_ok _ _ (by simp), takeS_ok _ _ (by simp)]
  exact ⟨List.take_left, by rw [List.drop_left]⟩
theorem word_put (n : Nat) (h : n ≤ 4294967295) (rest : List UInt8) : (⟨beN 4 n ++ rest, 0⟩ : RS).wordV = n ∧ (⟨beN 4 n ++ rest, 0⟩ : RS).takeS 4 = ⟨rest, 0⟩ := by
  have hl : (beN 4 n).length = 4 := beN_length 4 n
  have b1 := takeB_ok (beN 4 n ++ rest) 4 (by rw [List.length_append]; omega)
  have s1 := takeS_ok (beN 4 n ++ rest) 4 (by rw [List.length_append]; omega)
  have ht : (beN 4 n ++ rest).take 4 = beN 4 n := by rw [← hl]; exact List.take_left
  have hd : (beN 4 n ++ rest).drop 4 = rest := by rw [← hl]; exact List.drop_left
  refine ⟨?_, by rw [show (4 : Int) = ((4 : Nat) : Int) from rfl, s1, hd]⟩
  rw [RS.wordV, show (4 : Int) = ((4 : Nat) : Int) from rfl, b1, ht, valN_beN, Nat.mod_eq_of_lt (by omega)]
def flatN (l : List Int) : List UInt8 := l.flatMap fun x => putN x.toNat
theorem ints_put (l : List Int) (rest : List UInt8) (L : Nat) (hl : ∀ x ∈ l, 0 ≤ x ∧ x ≤ (L : Int)) (hL : L < 18446744073709551616) (k : Nat) (hk : k ≤ l.length) :
    intsR ⟨flatN l ++ rest, 0⟩ L k = (⟨flatN (l.drop k) ++ rest, 0⟩, l.take k) := by
  induction k with
  | zero => simp [intsR]
  | succ k ih =>
    have hlt : k < l.length := by omega
    have hx := hl l[k] (List.getElem_mem hlt)
    have hd : l.drop k = l[k] :: l.drop (k + 1) := List.drop_eq_getElem_cons hlt
    have e : flatN (l.drop k) ++ rest = putN l[k].toNat ++ (flatN (l.drop (k + 1)) ++ rest) := by rw [hd, flatN, List.flatMap_cons, List.append_assoc]; rfl
    obtain ⟨h1, h2⟩ := num_put l[k].toNat (by omega) (flatN (l.drop (k + 1)) ++ rest) L (by omega)
    rw [intsR, ih (by omega), if_neg (by simp)]
    simp only
    rw [e, h1, h2, List.take_succ_eq_append_getElem hlt, Int.toNat_of_nonneg hx.1]
theorem list_put (l : List Int) (rest : List UInt8) (many limit : Int) (hm : l.length ≤ many) (hL : limit ≤ 9223372036854775807) (hl : ∀ x ∈ l, 0 ≤ x ∧ x ≤ limit) (hn : l.length ≤ 1000) :
    (⟨listN l ++ rest, 0⟩ : RS).listV many limit = l ∧ (⟨listN l ++ rest, 0⟩ : RS).listS many limit = ⟨rest, 0⟩ := by
  obtain ⟨h1, h2⟩ := num_put l.length (by omega) (flatN l ++ rest) many.toNat (by omega)
  have e : listN l ++ rest = putN l.length ++ (flatN l ++ rest) := by simp [listN, flatN]
  have hi := ints_put l rest limit.toNat (fun x hx => ⟨(hl x hx).1, by have := hl x hx; omega⟩) (by omega) l.length (Nat.le_refl _)
  have hS : (⟨listN l ++ rest, 0⟩ : RS).listS many limit = ⟨rest, 0⟩ := by
    rw [RS.listS, e, h1, h2, hi]
    simp [flatN]
  refine ⟨?_, hS⟩
  rw [RS.listV, hS, if_neg (by simp), e, h1, h2, hi]
  simp

theorem num_long (l : List UInt8) (h : l.length ≤ 7) (L : Nat) :
    (⟨UInt8.ofNat (l.length + 1) :: 0 :: l, 0⟩ : RS).numV L = 0 ∧ (⟨UInt8.ofNat (l.length + 1) :: 0 :: l, 0⟩ : RS).numS L = ⟨[], 3⟩ := by
  have hc : (UInt8.ofNat (l.length + 1)).toNat = l.length + 1 := by simp; omega
  obtain ⟨h1, h2⟩ := num_head (UInt8.ofNat (l.length + 1)) (0 :: l) L (by omega) (by rw [hc]; simp)
  rw [h1, h2, hc]
  have ht : (0 :: l).take (l.length + 1) = 0 :: l := List.take_of_length_le (by simp)
  rw [ht, numV2, numS2]
  simp [RS.fail]
theorem Src.other {w w' : World} {b c : Nat} {r : RS} (h : Src w c r) (ho : Only b w w') (hne : c ≠ b) : Src w' c r := (ho.block c h.lt hne).trans h
/-- bits of the lower 24 -/
theorem and24 (x : Int) : bits .and .i64 x 16777215 = x % 16777216 := by
  have hm : (BitVec.ofInt 64 16777215).toNat = 2 ^ 24 - 1 := by decide
  have hk : (BitVec.ofInt 64 x &&& BitVec.ofInt 64 16777215).toNat = (x % ((2 ^ 64 : Nat) : Int)).toNat % 2 ^ 24 := by
    rw [BitVec.toNat_and, BitVec.toNat_ofInt, hm, Nat.and_two_pow_sub_one_eq_mod]
  show IntKind.i64.wrap ((BitVec.ofInt 64 x &&& BitVec.ofInt 64 16777215).toNat : Nat) = x % 16777216
  rw [hk, IntKind.wrap_i64]
  omega
/-- a slice of the call's own reads as its numbers -/
theorem Ints.owned {w : World} {base : Nat} {v : Value} {l : List Int} (h : w.ownsRow base 3 1 v l.length (iCells l)) (hl : l.length ≤ 9223372036854775807) : Ints w v l := by
  rcases h.2 with ⟨rfl, hn⟩ | ⟨g, cap, cur, rfl, hb, hg, hnc, hcm, hcs, ht⟩
  · exact ⟨none, 0, by rw [hn], hl, .inl (List.eq_nil_of_length_eq_zero hn)⟩
  · refine ⟨some ⟨g, 0, none⟩, cap, rfl, hl, .inr ⟨g, 0, rfl, lt_heap hg, fun j hj => ?_⟩⟩
    have hc := h.cells (g := g) rfl j (.int .i64 (l.getD j 0)) (by simp [iCells, List.getD, hj])
    have ha : (⟨g, 0, none⟩ : Addr).add j = ⟨g, 0 + j, none⟩ := by unfold Addr.add; split <;> simp_all
    rw [← ha]
    exact hc

end Go.Proofs.Ytlhjgpedmnjbpaa
/-
  Worlds in which the blocks below one stay as they were: for regions that call, load and draw. Of no program.
-/












namespace Go.Proofs.Ytlhjgpedmnjbpaa
open Go.RowKit
set_option linter.unusedVariables false

/-- nothing of what was there has turned -/
def Stays (N : Nat) (w w' : World) : Prop := N ≤ w'.heap.size ∧ Below N w w'
theorem stays_of {N : Nat} {w w' : World} (h : N ≤ w.heap.size) (hb : Below w.heap.size w w') : Stays N w w' := ⟨Nat.le_trans h hb.size, hb.mono h⟩
theorem stays_refl {N : Nat} {w : World} (h : N ≤ w.heap.size) : Stays N w w := ⟨h, Below.refl _ _⟩
/-- what a drawn region keeps -/
def Keeps (N : Nat) (w w' : World) : Prop := N ≤ w'.heap.size ∧ Below N w w' ∧ ∀ b o, b < N → w'.cell? ⟨b, o, none⟩ = w.cell? ⟨b, o, none⟩
theorem keeps_start {N : Nat} {w : World} (h : w.heap.size = N) : N ≤ w.drew.heap.size ∧ Below N w w.drew ∧ ∀ b o, b < N → w.drew.cell? ⟨b, o, none⟩ = w.cell? ⟨b, o, none⟩ :=
  ⟨by rw [← h]; exact Nat.le_refl _, below_drew' (Below.refl _ _), fun _ _ _ => rfl⟩
theorem keeps_next {N : Nat} {w w' w'' : World} {X : Prop} (h1 : N ≤ w'.heap.size ∧ Below N w w' ∧ X) (h : Stays N w' w'') : N ≤ w''.heap.size ∧ Below N w w'' ∧ ∀ b o, b < N → w''.cell? ⟨b, o, none⟩ = w.cell? ⟨b, o, none⟩ :=
  ⟨h.1, h1.2.1.trans h.2, fun b o hb => (h1.2.1.trans h.2).cell (p := ⟨b, o, none⟩) hb⟩
theorem keeps_alloc {N : Nat} {w w' : World} {X : Prop} {o : Obj} (h1 : N ≤ w'.heap.size ∧ Below N w w' ∧ X) : N ≤ (w'.alloc o).heap.size ∧ Below N w (w'.alloc o) ∧ ∀ b k, b < N → (w'.alloc o).cell? ⟨b, k, none⟩ = w.cell? ⟨b, k, none⟩ :=
  keeps_next h1 ⟨by simp; exact Nat.le_succ_of_le h1.1, (Below.refl _ _).alloc h1.1 _⟩
theorem wf_le {z : Int} (h : (Lit.int .i64 z).wf = true) : -9223372036854775808 ≤ z ∧ z ≤ 9223372036854775807 := by
  simp [Lit.wf, IntKind.min, IntKind.max, IntKind.signed, IntKind.bits] at h
  omega
theorem wf_of {z : Int} (h : -9223372036854775808 ≤ z ∧ z ≤ 9223372036854775807) : (Lit.int .i64 z).wf = true := by
  simp [Lit.wf, IntKind.min, IntKind.max, IntKind.signed, IntKind.bits]
  omega
end Go.Proofs.Ytlhjgpedmnjbpaa
/-
  A configuration as bytes: conf.Put and the reference's.
-/



namespace Go.Proofs.Ytlhjgpedmnjbpaa
open Go.RowKit
set_option linter.unusedVariables false
set_option linter.unusedSimpArgs false

/-- a configuration's bytes -/
def putC (c : CF) : List UInt8 := listN [c.e, c.b, c.k] ++ listN c.M ++ listN c.C
theorem ints_sr {w : World} {v : Value} {l : List Int} (h : SR w v 1 l.length (nCells l)) : Ints w v l := by
  obtain ⟨a, cap, rfl, h1, h2, h3, h4⟩ := h
  have hm : l.length ≤ 9223372036854775807 := by unfold maxLen at h2; omega
  refine ⟨a, cap, rfl, hm, ?_⟩
  rcases h4 with h4 | ⟨b, off, rfl, hb, hc⟩
  · exact .inl (List.eq_nil_of_length_eq_zero h4)
  · exact .inr ⟨b, off, rfl, hb, fun j hj => hc j _ (by simp [nCells, List.getD_eq_getElem?_getD, List.getElem?_eq_getElem hj])⟩
theorem ints_three (w : World) (x y z : Int) : Ints (w.alloc (.cells #[.int .i64 x, .int .i64 y, .int .i64 z] 3)) (.slice (some ⟨w.heap.size, 0, none⟩) 3 3) [x, y, z] := by
  have hx := heap_alloc_self w (.cells #[.int .i64 x, .int .i64 y, .int .i64 z] 3)
  refine ⟨_, 3, rfl, by simp, .inr ⟨w.heap.size, 0, rfl, lt_heap hx, fun j hj => ?_⟩⟩
  match j, hj with
  | 0, _ | 1, _ | 2, _ => simp only [World.cell?, hx]; rfl
theorem keepsV_start {N : Nat} {w : World} (h : N ≤ w.heap.size) : N ≤ w.drew.heap.size ∧ Below N w w.drew ∧ ∀ b o, b < N → w.drew.cell? ⟨b, o, none⟩ = w.cell? ⟨b, o, none⟩ :=
  ⟨h, below_drew' (Below.refl _ _), fun _ _ _ => rfl⟩
theorem keepsV_two {N : Nat} {w w' : World} {X : Prop} (h1 : N ≤ w'.heap.size ∧ Below N w w' ∧ X) : N ≤ w'.heap.size ∧ Below N w w' := ⟨h1.1, h1.2.1⟩
theorem keeps_allocD {N : Nat} {w w' : World} {X : Prop} {o : Obj} (h1 : N ≤ w'.drew.heap.size ∧ Below N w w'.drew ∧ X) : N ≤ (w'.alloc o).drew.heap.size ∧ Below N w (w'.alloc o).drew ∧ ∀ b k, b < N → (w'.alloc o).drew.cell? ⟨b, k, none⟩ = w.cell? ⟨b, k, none⟩ :=
  keeps_alloc (w' := w'.drew) (o := o) h1
/-- every number can be put -/
def low63 (l : List Int) : Prop := l.length ≤ 1000 ∧ ∀ x ∈ l, x ≤ 9223372036854775807
theorem listN_len {l : List Int} (h : low63 l) : (listN l).length ≤ 10000 := by
  have h1 := putN_length l.length (by have := h.1; omega)
  have h2 := flat_len l h.2
  have h3 := h.1
  simp only [listN, List.length_append]
  omega
theorem cputCL (l : List Int) (hl : low63 l) (v : Value) (N : Nat) (w : World) (hW : N ≤ w.heap.size) (h : Ints w v l) : Calls Try.prog 168 #[v] w fun e w' => e = .returned (.string ⟨(listN l).toArray⟩) ∧ Stays N w w' := by
  refine (list_any v l w h hl.1 hl.2).mono ?_
  rintro ev w' ⟨rfl, hb⟩
  exact ⟨rfl, stays_of hW hb⟩
set_option maxHeartbeats 3200000 in
set_option maxRecDepth 40000 in
theorem cputC (c : CF) (a1 a2 : Option Addr) (q1 q2 : Nat) (w : World) (h : CFat c w (.slice a1 c.M.length q1) (.slice a2 c.C.length q2)) (h1 : low63 [c.e, c.b, c.k]) (h2 : low63 c.M) (h3 : low63 c.C) :
    Calls Try.prog 158 #[.agg #[.int .i64 c.e, .int .i64 c.b, .int .i64 c.k, .slice a1 c.M.length q1, .slice a2 c.C.length q2]] w fun ev w' => ev = .returned (.string ⟨(putC c).toArray⟩) ∧ Below w.heap.size w w' := by
  have hx := heap_alloc_self w (.cells #[.int .i64 c.e, .int .i64 c.b, .int .i64 c.k, .slice a1 c.M.length q1, .slice a2 c.C.length q2] 24)
  have hb : Below w.heap.size w (w.alloc (.cells #[.int .i64 c.e, .int .i64 c.b, .int .i64 c.k, .slice a1 c.M.length q1, .slice a2 c.C.length q2] 24)) := (Below.refl _ _).alloc (Nat.le_refl _) _
  go_enter Try.func158, Try.ntmps158
  go_upto_region 1 with fail
  generalize w.alloc (.cells #[.int .i64 c.e, .int .i64 c.b, .int .i64 c.k, .slice a1 c.M.length q1, .slice a2 c.C.length q2] 24) = w1 at *
  have d0 := cell_atD hx 0 (v := .int .i64 c.e) rfl
  have d1 := cell_atD hx 1 (v := .int .i64 c.b) rfl
  have d2 := cell_atD hx 2 (v := .int .i64 c.k) rfl
  have d3 := cell_atD hx 3 (v := .slice a1 c.M.length q1) rfl
  have d4 := cell_atD hx 4 (v := .slice a2 c.C.length q2) rfl
  obtain ⟨N, hN⟩ : ∃ N, w1.heap.size = N := ⟨_, rfl⟩
  have hNW : N ≤ w1.heap.size := by omega
  have hlt : w.heap.size < N := by have := lt_heap hx; omega
  have c1 := CFat.below h hb
  have cM := fun w' (h' : N ≤ w'.heap.size ∧ Below N w1 w') => cputCL c.M h2 _ N w' h'.1 (ints_sr (c1.1.below (by rw [hN]; exact h'.2)))
  have cC := fun w' (h' : N ≤ w'.heap.size ∧ Below N w1 w') => cputCL c.C h3 _ N w' h'.1 (ints_sr (c1.2.below (by rw [hN]; exact h'.2)))
  have cH := cputCL [c.e, c.b, c.k] h1 (.slice (some ⟨w1.heap.size, 0, none⟩) 3 3) N (w1.alloc (.cells #[.int .i64 c.e, .int .i64 c.b, .int .i64 c.k] 3)).drew (by simp; omega) ((ints_three w1 c.e c.b c.k).below (below_drew' (Below.refl _ _)))
  have hl1 : ¬ (9223372036854775807 < (listN [c.e, c.b, c.k]).length + (listN c.M).length) := by have := listN_len h1; have := listN_len h2; omega
  have hl2 : ¬ (9223372036854775807 < (listN [c.e, c.b, c.k]).length + (listN c.M).length + (listN c.C).length) := by have := listN_len h1; have := listN_len h2; have := listN_len h3; omega
  have hpc : putC c = listN [c.e, c.b, c.k] ++ listN c.M ++ listN c.C := rfl
  generalize listN [c.e, c.b, c.k] = H at *
  generalize listN c.M = MB at *
  generalize listN c.C = CB at *
  have HPC := Lib.hid hpc
  clear hpc
  have HB := Lib.hid (And.intro hb hN)
  clear hb hN hx c1 h h1 h2 h3
  go_region_held3 (fun w' => N ≤ w'.heap.size ∧ Below N w1 w' ∧ ∀ b o, b < N → w'.cell? ⟨b, o, none⟩ = w1.cell? ⟨b, o, none⟩) (first | with_reducible exact keeps_allocD (by assumption) | with_reducible exact keeps_alloc (by assumption) | with_reducible exact keeps_next (by assumption) (by assumption) | exact keepsV_start hNW) (first | (go_at_call 168; (with_reducible refine Calls.mono cH ?_); rintro ev wz ⟨rfl, hzz⟩) | (go_at_call 168; (with_reducible refine Calls.mono (cM _ ?hk) ?_); (case hk => exact keepsV_two (by assumption)); rintro ev wz ⟨rfl, hzz⟩) | (go_at_call 168; (with_reducible refine Calls.mono (cC _ ?hk) ?_); (case hk => exact keepsV_two (by assumption)); rintro ev wz ⟨rfl, hzz⟩))
  rename_i hfin
  have HF := Lib.hid ((HB.out.1).trans (hfin.2.1.mono (by have := HB.out.1.size; have := HB.out.2; omega)))
  clear hfin
  go_wp2_with fail
  go_ret
  exact ⟨ret_str (by rw [HPC.out, ← str_append, ← str_append]), HF.out⟩
theorem rputCL (l : List Int) (hl : low63 l) (v : Value) (N : Nat) (w : World) (hW : N ≤ w.heap.size) (h : Ints w v l) : Calls Try.prog 87 #[v] w fun e w' => e = .returned (.string ⟨(listN l).toArray⟩) ∧ Stays N w w' := by
  refine (reflist_any v l w h hl.1 hl.2).mono ?_
  rintro ev w' ⟨rfl, hb⟩
  exact ⟨rfl, stays_of hW hb⟩
set_option maxHeartbeats 3200000 in
set_option maxRecDepth 40000 in
theorem rputC (c : CF) (a1 a2 : Option Addr) (q1 q2 : Nat) (w : World) (h : CFat c w (.slice a1 c.M.length q1) (.slice a2 c.C.length q2)) (h1 : low63 [c.e, c.b, c.k]) (h2 : low63 c.M) (h3 : low63 c.C) :
    Calls Try.prog 79 #[.agg #[.int .i64 c.e, .int .i64 c.b, .int .i64 c.k, .slice a1 c.M.length q1, .slice a2 c.C.length q2]] w fun ev w' => ev = .returned (.string ⟨(putC c).toArray⟩) ∧ Below w.heap.size w w' := by
  have hx := heap_alloc_self w (.cells #[.int .i64 c.e, .int .i64 c.b, .int .i64 c.k, .slice a1 c.M.length q1, .slice a2 c.C.length q2] 24)
  have hb : Below w.heap.size w (w.alloc (.cells #[.int .i64 c.e, .int .i64 c.b, .int .i64 c.k, .slice a1 c.M.length q1, .slice a2 c.C.length q2] 24)) := (Below.refl _ _).alloc (Nat.le_refl _) _
  go_enter Try.func79, Try.ntmps79
  go_upto_region 1 with fail
  generalize w.alloc (.cells #[.int .i64 c.e, .int .i64 c.b, .int .i64 c.k, .slice a1 c.M.length q1, .slice a2 c.C.length q2] 24) = w1 at *
  have d0 := cell_atD hx 0 (v := .int .i64 c.e) rfl
  have d1 := cell_atD hx 1 (v := .int .i64 c.b) rfl
  have d2 := cell_atD hx 2 (v := .int .i64 c.k) rfl
  have d3 := cell_atD hx 3 (v := .slice a1 c.M.length q1) rfl
  have d4 := cell_atD hx 4 (v := .slice a2 c.C.length q2) rfl
  obtain ⟨N, hN⟩ : ∃ N, w1.heap.size = N := ⟨_, rfl⟩
  have hNW : N ≤ w1.heap.size := by omega
  have hlt : w.heap.size < N := by have := lt_heap hx; omega
  have c1 := CFat.below h hb
  have cM := fun w' (h' : N ≤ w'.heap.size ∧ Below N w1 w') => rputCL c.M h2 _ N w' h'.1 (ints_sr (c1.1.below (by rw [hN]; exact h'.2)))
  have cC := fun w' (h' : N ≤ w'.heap.size ∧ Below N w1 w') => rputCL c.C h3 _ N w' h'.1 (ints_sr (c1.2.below (by rw [hN]; exact h'.2)))
  have cH := rputCL [c.e, c.b, c.k] h1 (.slice (some ⟨w1.heap.size, 0, none⟩) 3 3) N (w1.alloc (.cells #[.int .i64 c.e, .int .i64 c.b, .int .i64 c.k] 3)).drew (by simp; omega) ((ints_three w1 c.e c.b c.k).below (below_drew' (Below.refl _ _)))
  have hl1 : ¬ (9223372036854775807 < (listN [c.e, c.b, c.k]).length + (listN c.M).length) := by have := listN_len h1; have := listN_len h2; omega
  have hl2 : ¬ (9223372036854775807 < (listN [c.e, c.b, c.k]).length + (listN c.M).length + (listN c.C).length) := by have := listN_len h1; have := listN_len h2; have := listN_len h3; omega
  have hpc : putC c = listN [c.e, c.b, c.k] ++ listN c.M ++ listN c.C := rfl
  generalize listN [c.e, c.b, c.k] = H at *
  generalize listN c.M = MB at *
  generalize listN c.C = CB at *
  have HPC := Lib.hid hpc
  clear hpc
  have HB := Lib.hid (And.intro hb hN)
  clear hb hN hx c1 h h1 h2 h3
  go_region_held3 (fun w' => N ≤ w'.heap.size ∧ Below N w1 w' ∧ ∀ b o, b < N → w'.cell? ⟨b, o, none⟩ = w1.cell? ⟨b, o, none⟩) (first | with_reducible exact keeps_allocD (by assumption) | with_reducible exact keeps_alloc (by assumption) | with_reducible exact keeps_next (by assumption) (by assumption) | exact keepsV_start hNW) (first | (go_at_call 87; (with_reducible refine Calls.mono cH ?_); rintro ev wz ⟨rfl, hzz⟩) | (go_at_call 87; (with_reducible refine Calls.mono (cM _ ?hk) ?_); (case hk => exact keepsV_two (by assumption)); rintro ev wz ⟨rfl, hzz⟩) | (go_at_call 87; (with_reducible refine Calls.mono (cC _ ?hk) ?_); (case hk => exact keepsV_two (by assumption)); rintro ev wz ⟨rfl, hzz⟩))
  rename_i hfin
  have HF := Lib.hid ((HB.out.1).trans (hfin.2.1.mono (by have := HB.out.1.size; have := HB.out.2; omega)))
  clear hfin
  go_wp2_with fail
  go_ret
  exact ⟨ret_str (by rw [HPC.out, ← str_append, ← str_append]), HF.out⟩
end Go.Proofs.Ytlhjgpedmnjbpaa
