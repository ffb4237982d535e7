/-
  The document's packing.
-/
import Derived.Test.YtlhjgpedmnjbpaaImgE
namespace Go.Proofs.Ytlhjgpedmnjbpaa
open Go.RowKit
set_option linter.unusedVariables false
set_option linter.unusedSimpArgs false

theorem rput_nat (n : Nat) (w : World) (hn : n ≤ 1073741824) : Calls Try.prog 78 #[.int .u64 n] w fun e w' => e = .returned (.string ⟨(putN n).toArray⟩) ∧ Below w.heap.size w w' := by
  have := refput_any (n : Int) w ⟨by omega, by omega⟩
  simpa using this
theorem flushL_ne (p : List UInt8) (h : p ≠ []) : flushL p = putN (2 * p.length) ++ p := by unfold flushL; rw [if_neg h]
theorem flushL_nil : flushL [] = [] := rfl
theorem val_str {s t : ByteArray} (h : s = t) : Value.string s = Value.string t := by rw [h]
set_option maxHeartbeats 6400000 in
set_option maxRecDepth 100000 in
theorem rpack (L : List UInt8) (hs : L.length ≤ 16777216) (w : World) :
    Calls Try.prog 67 #[.string ⟨L.toArray⟩] w fun e w' => e = .returned (.string ⟨(packL [] L).toArray⟩) ∧ Below w.heap.size w w' := by
  have hR := packL_len L.length [] L (Nat.le_refl _) (by simp; omega)
  obtain ⟨R, hRe⟩ : ∃ R, packL [] L = R := ⟨_, rfl⟩
  rw [hRe] at hR ⊢
  have hRl : R.length ≤ 1000000000 := by simp at hR; omega
  have HR := Lib.hid hRe
  clear hRe hR
  go_enter Try.func67, Try.ntmps67
  go_wp2_with fail
  go_loopw [0, 3, 4] (fun sv ov pv wr => ∃ (X O P : List UInt8), sv = .string ⟨X.toArray⟩ ∧ ov = .string ⟨O.toArray⟩ ∧ pv = .string ⟨P.toArray⟩ ∧ P.length + X.length ≤ L.length ∧ Below w.heap.size w wr ∧ O ++ packL P X = R) (fun sv _ _ _ => strLen sv)
  case atStart => exact ⟨L, [], [], rfl, rfl, rfl, by simp, Below.refl _ _, HR.out⟩
  case round =>
    obtain ⟨X, O, P, rfl, rfl, rfl, hPX, hb, heq⟩ := hrel
    have HB := Lib.hid hb
    have HE := Lib.hid heq
    have hol : O.length ≤ 1000000000 := by have := congrArg List.length heq; simp only [List.length_append] at this; omega
    have hN0 : w.heap.size ≤ wr.heap.size := hb.size
    clear hb heq
    have hpl2 := putN_length (2 * P.length) (by omega)
    obtain ⟨T, hT⟩ : ∃ T, putN (2 * P.length) = T := ⟨_, rfl⟩
    have hput : ∀ w', Calls Try.prog 78 #[.int .u64 ((2 * P.length : Nat) : Int)] w' fun e w'' => e = .returned (.string ⟨T.toArray⟩) ∧ Below w'.heap.size w' w'' := by
      intro w'
      rw [← hT]
      exact rput_nat _ w' (by omega)
    rw [hT] at hpl2
    have HT := Lib.hid hT
    obtain ⟨M, hM⟩ : ∃ M, 2 * P.length = M := ⟨_, rfl⟩
    rw [hM] at hput
    have hm2 : (2 : Int) * (P.length : Int) = (M : Int) := by omega
    have hm2l : (M : Int) ≤ 33554432 := by omega
    have hPl : (P.length : Int) ≤ 16777216 := by omega
    clear hM
    have hs1 : T.length + P.length ≤ 9223372036854775807 := by omega
    have hs2 : O.length + (T.length + P.length) ≤ 9223372036854775807 := by omega
    have sa1 := str_append T P
    have sa2 := str_append O (T ++ P)
    clear hT
    cases X with
    | nil =>
      by_cases hP : P = []
      · have hf : O = R := by have := HE.out; rw [packL_nil, hP, flushL_nil, List.append_nil] at this; exact this
        have HF := Lib.hid hf
        have hpe : P.isEmpty = true := by simp [hP]
        clear hf hP
        go_wp2_with fail
        go_ret
        exact ⟨ret_str (by rw [HF.out]), HB.out⟩
      · have hf : O ++ (T ++ P) = R := by have := HE.out; rw [packL_nil, flushL_ne P hP, HT.out] at this; exact this
        have HF := Lib.hid hf
        have hpe : P.isEmpty = false := by simpa using hP
        clear hf hP
        go_wp2_with fail
        refine Calls.mono (hput _) ?_
        rintro e w1 ⟨rfl, hb1⟩
        have HB1 := Lib.hid (HB.out.trans (hb1.mono hN0))
        clear hb1
        go_wp2_with fail
        go_ret
        exact ⟨ret_str (by rw [HF.out]), HB1.out⟩
    | cons c t =>
      have hpos := runN_pos c t
      have hrl := runN_le (c :: t)
      have hcons := packL_cons P c t
      have ht1 : ((c :: t).take (runN (c :: t))).length = runN (c :: t) := by rw [List.length_take]; exact Nat.min_eq_left hrl
      obtain ⟨X, hX⟩ : ∃ X, c :: t = X := ⟨_, rfl⟩
      have cr := rrun c t ⟨X.toArray⟩ (by rw [hX]) (by simp [ByteArray.size]; rw [← hX]; omega)
      rw [hX] at hpos hrl hcons cr hPX ht1
      have hXl : 0 < X.length := by rw [← hX]; simp
      have he1 : ByteArray.extract ⟨X.toArray⟩ 0 1 = ⟨[c].toArray⟩ := by rw [str_take, ← hX]; rfl
      rw [hX] at HE
      rw [hX]
      obtain ⟨N, hN⟩ : ∃ N, runN X = N := ⟨_, rfl⟩
      rw [hN] at hpos hrl hcons cr ht1
      have hdr := str_drop X N
      have htk := str_take X N
      obtain ⟨Y, hY⟩ : ∃ Y, X.drop N = Y := ⟨_, rfl⟩
      obtain ⟨Z, hZ⟩ : ∃ Z, X.take N = Z := ⟨_, rfl⟩
      have hYl : Y.length = X.length - N := by rw [← hY, List.length_drop]
      rw [hY] at hdr hcons
      rw [hZ] at htk hcons ht1
      have HC := Lib.hid hcons
      have HYL := Lib.hid hYl
      have HZL := Lib.hid ht1
      have hXi : (0 : Int) < (X.length : Int) := by omega
      have hXu : (X.length : Int) ≤ 16777216 := by omega
      have hX1 : (1 : Int) ≤ (X.length : Int) := by omega
      have hX1n : 1 ≤ X.length := by omega
      have hNu : (N : Int) ≤ (X.length : Int) := by omega
      clear hcons hX hN hY hZ hYl ht1
      by_cases h4 : 4 ≤ N
      · have h4i : (4 : Int) ≤ (N : Int) := by omega
        have hpl3 := putN_length (2 * N + 1) (by omega)
        obtain ⟨T2, hT2⟩ : ∃ T2, putN (2 * N + 1) = T2 := ⟨_, rfl⟩
        have hput2 : ∀ w', Calls Try.prog 78 #[.int .u64 ((2 * N + 1 : Nat) : Int)] w' fun e w'' => e = .returned (.string ⟨T2.toArray⟩) ∧ Below w'.heap.size w' w'' := by
          intro w'
          rw [← hT2]
          exact rput_nat _ w' (by omega)
        rw [hT2] at hpl3
        have hcn := HC.out
        rw [if_pos h4, hT2] at hcn
        have HCN := Lib.hid hcn
        clear hcn hT2
        obtain ⟨N2, hN2⟩ : ∃ N2, 2 * N + 1 = N2 := ⟨_, rfl⟩
        rw [hN2] at hput2
        have hm3 : (2 : Int) * (N : Int) = ((N2 : Int) - 1) := by omega
        have hm4 : (N2 : Int) - 1 + 1 = (N2 : Int) := by omega
        have hm5 : (N2 : Int) ≤ 33554433 := by omega
        have hm6 : (1 : Int) ≤ (N2 : Int) := by omega
        have hw1 : IntKind.i64.wrap (2 * (N : Int)) = (N2 : Int) - 1 := by rw [IntWalk.i64_in _ (by omega)]; omega
        have hw1b : IntKind.i64.wrap ((N2 : Int) - 1) = (N2 : Int) - 1 := by rw [IntWalk.i64_in _ (by omega)]
        have hw2 : IntKind.i64.wrap ((N2 : Int) - 1 + 1) = (N2 : Int) := by rw [IntWalk.i64_in _ (by omega)]; omega
        have hw2b : IntKind.i64.wrap (N2 : Int) = (N2 : Int) := by rw [IntWalk.i64_in _ (by omega)]
        have hw3 : IntKind.u64.wrap (N2 : Int) = (N2 : Int) := wrap_u64_in _ ⟨by omega, by omega⟩
        have sb1 := str_append T2 [c]
        have hb1l : T2.length + [c].length ≤ 9223372036854775807 := by simp; omega
        have hb1n : ¬ 9223372036854775807 < T2.length + [c].length := by simp; omega
        have hb1o : ¬ 9223372036854775807 < T2.length + 1 := by omega
        clear hN2
        by_cases hP : P = []
        · have hf : (O ++ (T2 ++ [c])) ++ packL [] Y = R := by have := HE.out; rw [HCN.out, hP, flushL_nil] at this; simpa [List.append_assoc] using this
          have HF := Lib.hid hf
          have hpe : P.isEmpty = true := by simp [hP]
          have sb2 := str_append O (T2 ++ [c])
          have hb2n : ¬ 9223372036854775807 < O.length + (T2.length + 1) := by omega
          have hb2l : O.length + (T2.length + 1) ≤ 9223372036854775807 := by omega
          clear hf hP
          go_wp2_with fail
          refine Calls.mono (cr _) ?_
          rintro e w1 ⟨rfl, q, rfl⟩
          have hbw := below_drewN' HB.out q
          have hNW : w.heap.size ≤ (wr.drewN q).heap.size := hN0
          generalize wr.drewN q = W1 at *
          have HBW := Lib.hid hbw
          clear hbw

          obtain ⟨n1, hn1⟩ : ∃ n1, W1.heap.size = n1 := ⟨_, rfl⟩
          have HN := Lib.hid hn1
          have cs1 : ∀ w', n1 ≤ w'.heap.size → Calls Try.prog 78 #[.int .u64 (N2 : Int)] w' fun x w'' => x = .returned (.string ⟨T2.toArray⟩) ∧ Stays n1 w' w'' := fun w' h => (hput2 w').mono fun e w'' ⟨he, hw⟩ => ⟨he, stays_of h hw⟩
          clear hput2 hput cr hn1
          go_upto_region 7 with fail
          go_region_held3 (fun w' => n1 ≤ w'.heap.size ∧ Below n1 W1 w' ∧ ∀ b o, b < n1 → w'.cell? ⟨b, o, none⟩ = W1.cell? ⟨b, o, none⟩) (first | assumption | exact keeps_start HN.out | exact keeps_next (by assumption) (by assumption)) (first | (go_at_call 78; refine Calls.mono (cs1 _ (And.left (by assumption))) ?_; rintro e wz ⟨rfl, hz⟩))
          rename_i hfin
          have FIN := Lib.hid (HBW.out.trans (hfin.2.1.mono (by rw [← HN.out]; exact hNW)))
          clear hfin
          go_wp2_with fail
          go_roundw
          case rel => exact ⟨Y, O ++ (T2 ++ [c]), [], rfl, rfl, rfl, by have := HYL.out; simp only [List.length_nil]; omega, FIN.out, HF.out⟩
          case measure => have := HYL.out; simp [strLen]; omega
        · have hf : ((O ++ (T ++ P)) ++ (T2 ++ [c])) ++ packL [] Y = R := by have := HE.out; rw [HCN.out, flushL_ne P hP, HT.out] at this; simpa [List.append_assoc] using this
          have HF := Lib.hid hf
          have hpe : P.isEmpty = false := by simpa using hP
          obtain ⟨O2, hO2⟩ : ∃ O2, O ++ (T ++ P) = O2 := ⟨_, rfl⟩
          have hO2l : O2.length ≤ 1100000000 := by rw [← hO2]; simp only [List.length_append]; omega
          rw [hO2] at HF sa2
          have sb2 := str_append O2 (T2 ++ [c])
          have hb2n : ¬ 9223372036854775807 < O2.length + (T2.length + 1) := by omega
          have hb2l : O2.length + (T2.length + 1) ≤ 9223372036854775807 := by omega
          clear hf hP hO2
          go_wp2_with fail
          refine Calls.mono (cr _) ?_
          rintro e w1 ⟨rfl, q, rfl⟩
          go_wp2_with fail
          refine Calls.mono (hput _) ?_
          rintro e w1 ⟨rfl, hb1⟩
          have hbw := (below_drewN' HB.out q).trans (hb1.mono hN0)
          have hNW : w.heap.size ≤ w1.heap.size := hbw.size
          clear hb1
          generalize w1 = W1 at *
          have HBW := Lib.hid hbw
          clear hbw

          obtain ⟨n1, hn1⟩ : ∃ n1, W1.heap.size = n1 := ⟨_, rfl⟩
          have HN := Lib.hid hn1
          have cs1 : ∀ w', n1 ≤ w'.heap.size → Calls Try.prog 78 #[.int .u64 (N2 : Int)] w' fun x w'' => x = .returned (.string ⟨T2.toArray⟩) ∧ Stays n1 w' w'' := fun w' h => (hput2 w').mono fun e w'' ⟨he, hw⟩ => ⟨he, stays_of h hw⟩
          clear hput2 hput cr hn1
          go_upto_region 7 with fail
          go_region_held3 (fun w' => n1 ≤ w'.heap.size ∧ Below n1 W1 w' ∧ ∀ b o, b < n1 → w'.cell? ⟨b, o, none⟩ = W1.cell? ⟨b, o, none⟩) (first | assumption | exact keeps_start HN.out | exact keeps_next (by assumption) (by assumption)) (first | (go_at_call 78; refine Calls.mono (cs1 _ (And.left (by assumption))) ?_; rintro e wz ⟨rfl, hz⟩))
          rename_i hfin
          have FIN := Lib.hid (HBW.out.trans (hfin.2.1.mono (by rw [← HN.out]; exact hNW)))
          clear hfin
          go_wp2_with fail
          go_roundw
          case rel => exact ⟨Y, O2 ++ (T2 ++ [c]), [], rfl, rfl, rfl, by have := HYL.out; simp only [List.length_nil]; omega, FIN.out, HF.out⟩
          case measure => have := HYL.out; simp [strLen]; omega
      · have h4i : (N : Int) < 4 := by omega
        have hf : O ++ packL (P ++ Z) Y = R := by have := HE.out; rw [HC.out, if_neg h4] at this; exact this
        have HF := Lib.hid hf
        have sa3 := str_append P Z
        have hz3 : P.length + Z.length ≤ 9223372036854775807 := by have := HZL.out; omega
        clear hf
        go_wp2_with fail
        refine Calls.mono (cr _) ?_
        rintro e w1 ⟨rfl, q, rfl⟩
        have HB1 := Lib.hid (below_drewN' HB.out q)
        go_wp2_with fail
        go_roundw
        case rel => exact ⟨Y, O, P ++ Z, rfl, rfl, rfl, by have := HZL.out; have := HYL.out; rw [List.length_append]; omega, HB1.out, HF.out⟩
        case measure => have := HYL.out; simp [strLen]; omega
end Go.Proofs.Ytlhjgpedmnjbpaa
