/-
  SuperPuts.
-/
import Derived.Test.YtcoliadgnbhkaaaSuperF
namespace Go.Proofs.Ytcoliadgnbhkaaa
open Go.RowKit
set_option linter.unusedVariables false
set_option linter.unusedSimpArgs false

theorem be_more (n k : Nat) (h : k < 8) : (beN 8 n).take (k + 1) = (beN 8 n).take k ++ [UInt8.ofNat (n / 256 ^ (7 - k))] := by
  have hj : k = 0 ∨ k = 1 ∨ k = 2 ∨ k = 3 ∨ k = 4 ∨ k = 5 ∨ k = 6 ∨ k = 7 := by omega
  rcases hj with rfl | rfl | rfl | rfl | rfl | rfl | rfl | rfl <;> rfl
theorem byte_shift (n k : Nat) (h : k < 8) : (n : Int) / 2 ^ (56 - 8 * k) % 256 = ((UInt8.ofNat (n / 256 ^ (7 - k))).toNat : Int) := by
  rw [show 56 - 8 * k = 8 * (7 - k) by omega]
  exact byte_nat n (7 - k)
def PRel5 (n k : Nat) (b : Value) (w wr : World) : Prop := b = .string ⟨((beN 8 n).take k).toArray⟩ ∧ Below w.heap.size w wr
set_option maxHeartbeats 3200000 in
set_option maxRecDepth 100000 in
theorem superputs_law (n : Int) (s : ByteArray) (w : World) (hn : (Lit.int .u64 n).wf = true) (hs : s.size ≤ maxLen) :
    Calls Try.prog 5 #[.int .u64 n, .string s] w fun e w' => e = .returned (.bool true) ∧ Below w.heap.size w w' := by
  have hn' : 0 ≤ n ∧ n < 18446744073709551616 := by
    simp [Lit.wf, IntKind.min, IntKind.max, IntKind.signed, IntKind.bits] at hn
    omega
  obtain ⟨m, rfl⟩ : ∃ m : Nat, n = m := ⟨n.toNat, by omega⟩
  have hm : m < 18446744073709551616 := by omega
  unfold maxLen at hs
  have ca := fun w => awake05 w
  clear hn hn'
  have hm0 : 0 ≤ min (s.size : Int) 60 := by omega
  obtain ⟨t, ht⟩ : ∃ t, min (s.size : Int) 60 = t := ⟨_, rfl⟩
  have ht1 : t ≤ 60 := by omega
  have ht2 : t ≤ (s.size : Int) := by omega
  have ht0 : 0 ≤ t := by omega
  obtain ⟨E, hE⟩ : ∃ E : ByteArray, s.extract 0 t.toNat = E := ⟨_, rfl⟩
  have hEs : E.size ≤ 60 := by rw [← hE, ByteArray.size_extract]; omega
  have hEm : E.size ≤ maxLen := by unfold maxLen; omega
  by_cases hv : m = 0 ∨ 48 < E.size
  · have c1 := fun w => sput_none m E w hv hEm
    have c2 := fun w => sget_no ⟨#[]⟩ w whole_nil
    have HV := Lib.hid hv
    clear hv hEm
    go_enter Try.func5, Try.ntmps5
    go_wp2_with fail
    refine Calls.mono (c1 _) ?_
    rintro e w1 ⟨rfl, rfl⟩
    go_wp2_with fail
    refine Calls.mono (c2 _) ?_
    rintro e w2 ⟨rfl, hb⟩
    have HB := Lib.hid hb
    clear hb c1 c2
    by_cases h0 : m = 0
    · subst h0
      go_wp2_with fail
      refine Calls.mono (ca _) ?_
      rintro e w3 ⟨rfl, hb⟩
      have HB2 := Lib.hid (below_trans HB.out hb HB.out.size)
      clear hb
      go_wp2_with fail
      go_ret
      exact ⟨ret_bool (by simp), HB2.out⟩
    · have h1 : ((m : Int) == 0) = false := by simpa using h0
      have h2 : 48 < E.size := HV.out.resolve_left h0
      clear h0
      go_wp2_with fail
      refine Calls.mono (ca _) ?_
      rintro e w3 ⟨rfl, hb⟩
      have HB2 := Lib.hid (below_trans HB.out hb HB.out.size)
      clear hb
      go_wp2_with fail
      go_ret
      exact ⟨ret_bool (by simp), HB2.out⟩
  · have h0 : m ≠ 0 := fun h => hv (.inl h)
    have h48 : E.size ≤ 48 := by omega
    have c1 := fun w => sput m E w h0 hm h48
    have c2 := fun w => sget_ok (putS m E) w (put_whole m E h0 hm h48)
    rw [put_num m E hm h48, put_word m E h48] at c2
    have hw := padS_size E h48
    have hP : putS m E = be8 m ++ (padS E).extract 0 24 ++ be8 m ++ (padS E).extract 24 48 := rfl
    obtain ⟨P, hPP⟩ : ∃ P, putS m E = P := ⟨_, rfl⟩
    have cw := fun w => sword E w h48
    obtain ⟨W, hW⟩ : ∃ W, padS E = W := ⟨_, rfl⟩
    rw [hPP] at c1 c2 hP
    rw [hW] at c2 cw hw hP
    have h1 : ((m : Int) == 0) = false := by simpa using h0
    have h2 : ¬ 48 < E.size := by omega
    have HP := Lib.hid hP
    have HW := Lib.hid hw
    clear hv hEm hP hPP hW hw h0
    go_enter Try.func5, Try.ntmps5
    go_wp2_with fail
    refine Calls.mono (c1 _) ?_
    rintro e w1 ⟨rfl, hb⟩
    have HB1 := Lib.hid hb
    clear hb
    go_wp2_with fail
    refine Calls.mono (c2 _) ?_
    rintro e w2 ⟨rfl, hb⟩
    have HB := Lib.hid (below_trans HB1.out hb HB1.out.size)
    clear hb c1 c2 HB1
    go_wp2_with fail
    go_loopw [10, 11] (fun b i wr => ∃ k : Nat, k ≤ 8 ∧ i = .int .i64 (56 - 8 * (k : Int)) ∧ PRel5 m k b w wr) (fun _ i _ => (8 + intOf i).toNat)
    case atStart => exact ⟨0, by omega, rfl, rfl, HB.out⟩
    case round =>
      obtain ⟨k, hk, rfl, rfl, hb⟩ := hrel
      have HBr := Lib.hid hb
      clear hb
      by_cases hlt : k < 8
      · have hge : 0 ≤ 56 - 8 * (k : Int) := by omega
        have hcv := one_string (P := Try.prog) (src := 47) (dst := 9) (e := 5) Try.underlying47 Try.underlying5 Try.underlying9 (UInt8.ofNat (m / 256 ^ (7 - k))) _ (byte_shift m k hlt)
        go_wp2_with fail
        go_roundw
        case rel => exact ⟨k + 1, by omega, congrArg (Value.int .i64) (by omega), by rw [be_more m k hlt, str_append], HBr.out.alloc HBr.out.size _⟩
        case measure => simp [intOf]; omega
      · obtain rfl : k = 8 := by omega
        have hB8 : (⟨((beN 8 m).take 8).toArray⟩ : ByteArray) = be8 m := by rw [beN_take]; rfl
        have hsb := be8_size m
        have hP := HP.out
        rw [hB8]
        obtain ⟨B, hB⟩ : ∃ B, be8 m = B := ⟨_, rfl⟩
        rw [hB] at hsb hP ⊢
        have HP2 := Lib.hid hP
        have hBs : B.size ≤ 8 := by omega
        have hw := HW.out
        have hw2 : (W.size : Int) = 48 := by omega
        have hx1 := ext_size W 0 24 (by omega)
        have hx2 := ext_size W 24 48 (by omega)
        have hx1' : (W.extract 0 24).size ≤ 24 := by omega
        have hx2' : (W.extract 24 48).size ≤ 24 := by omega
        have k1 : ¬ 9223372036854775807 < B.size + 24 := by omega
        have k2 : ¬ 9223372036854775807 < B.size + 24 + B.size := by omega
        have k3 : ¬ 9223372036854775807 < B.size + 24 + B.size + 24 := by omega
        have hEq : (P.toList == (B ++ W.extract 0 24 ++ B ++ W.extract 24 48).toList) = true := by rw [← hP]; simp
        have hEq2 : ((W.toList == W.toList) = true) := by simp
        have hEq3 : ((m : Int) == (m : Int)) = true := by simp
        clear hB8 hsb hB hP hx1 hx2
        go_upto_region 11 with fail
        obtain ⟨N, hN⟩ : ∃ N, wr.heap.size = N := ⟨_, rfl⟩
        have HN := Lib.hid hN
        have c1 : ∀ w' : World, N ≤ w'.heap.size → Calls Try.prog 26 #[.string E] w' fun e w'' => e = .returned (.string W) ∧ Stays N w' w'' := fun w' hN => (cw w').mono fun e w'' h => ⟨h.1, stays_of hN h.2⟩
        have c2 : ∀ w' : World, N ≤ w'.heap.size → Calls Try.prog 25 #[] w' fun e w'' => e = .returned (.bool true) ∧ Stays N w' w'' := fun w' hN => (ca w').mono fun e w'' h => ⟨h.1, stays_of hN h.2⟩
        clear hN cw ca hE ht
        go_region_held3 (fun w' => N ≤ w'.heap.size ∧ Below N wr w' ∧ ∀ b o, b < N → w'.cell? ⟨b, o, none⟩ = wr.cell? ⟨b, o, none⟩) (first | assumption | exact keeps_start HN.out | exact keeps_next (by assumption) (by assumption)) (first | (go_at_call 26; refine Calls.mono (c1 _ (And.left (by assumption))) ?_; rintro e wz ⟨rfl, hz⟩) | (go_at_call 25; refine Calls.mono (c2 _ (And.left (by assumption))) ?_; rintro e wz ⟨rfl, hz⟩))
        go_wp2_with fail
        go_ret
        have hh := And.left (And.right (by assumption : N ≤ wz.heap.size ∧ Below N wr wz ∧ ∀ (b o : Nat), b < N → wz.cell? ⟨b, o, none⟩ = wr.cell? ⟨b, o, none⟩))
        exact ⟨rfl, below_trans HBr.out (by rw [HN.out]; exact hh) HBr.out.size⟩
end Go.Proofs.Ytcoliadgnbhkaaa
