/-
  SuperTorn.
-/
import Derived.Test.YtcoliadgnbhkaaaSuperG
import Derived.Test.YtcoliadgnbhkaaaFits
namespace Go.Proofs.Ytcoliadgnbhkaaa
open Go.RowKit
set_option linter.unusedVariables false
set_option linter.unusedSimpArgs false

theorem or_one (a : Nat) (h : a < 18446744073709551616) : ∃ M : Nat, bits .or .u64 (a : Int) 1 = (M : Int) ∧ 0 < M ∧ M < 18446744073709551616 := by
  refine ⟨a ||| 1, ?_, Nat.lt_of_lt_of_le (by omega) Nat.right_le_or, Nat.or_lt_two_pow (n := 64) h (by omega)⟩
  have hl : a ||| 1 < 2 ^ 64 := Nat.or_lt_two_pow h (by omega)
  show IntKind.u64.wrap ((BitVec.ofInt 64 (a : Int) ||| BitVec.ofInt 64 1).toNat : Nat) = _
  rw [BitVec.toNat_or]
  rw [show (BitVec.ofInt 64 (a : Int)).toNat = a by rw [BitVec.toNat_ofInt]; omega, show (BitVec.ofInt 64 1).toNat = 1 by decide]
  rw [IntKind.wrap_u64]
  omega
theorem wf_u64 {n : Int} (hn : (Lit.int .u64 n).wf = true) : ∃ m : Nat, n = m ∧ m < 18446744073709551616 := by
  simp [Lit.wf, IntKind.min, IntKind.max, IntKind.signed, IntKind.bits] at hn
  exact ⟨n.toNat, by omega, by omega⟩
theorem fits_strs2 {w : World} {c : Array Value} (h : Fits w (Sh.rep .str 2) c.toList) : ∃ a b : ByteArray, c = #[.string a, .string b] ∧ a.size ≤ maxLen ∧ b.size ≤ maxLen := by
  obtain ⟨x, y, e, ⟨a, rfl, ha⟩, x2, y2, rfl, ⟨b, rfl, hb⟩, rfl⟩ := h
  exact ⟨a, b, by cases c; simp_all, ha, hb⟩
/-- the front of a text -/
theorem cut48 (s : ByteArray) (hs : s.size ≤ maxLen) : ∃ (t : Int) (E : ByteArray), min (s.size : Int) 48 = t ∧ 0 ≤ t ∧ t ≤ (s.size : Int) ∧ s.extract 0 t.toNat = E ∧ E.size ≤ 48 := by
  refine ⟨_, _, rfl, by omega, by omega, rfl, ?_⟩
  rw [ByteArray.size_extract]
  omega
theorem whole_torn (m n : Nat) (s t : ByteArray) (h0 : m ≠ 0) (hm : m < 18446744073709551616) (hn : n < 18446744073709551616) (hs : s.size ≤ 48) (ht : t.size ≤ 48) : wholeB ((putS m s).extract 0 32 ++ (putS n t).extract 32 64) = decide (m = n) ∧ num8 ((putS m s).extract 0 32 ++ (putS n t).extract 32 64) = m := by
  have e : (putS m s).extract 0 32 ++ (putS n t).extract 32 64 = frontS (putS m s) ++ backS (putS n t) := by
    unfold frontS backS
    rw [putS_size n t ht]
  have z1 := putS_size m s hs
  have z2 := putS_size n t ht
  have h1 := torn_num (putS m s) (putS n t) z1
  have h2 := torn_back (putS m s) (putS n t) z1 z2
  rw [e]
  refine ⟨?_, by rw [h1, put_num m s hm hs]⟩
  unfold wholeB
  rw [h1, h2, put_num m s hm hs, put_back n t hn ht, ByteArray.size_append, front_size z1, back_size z2]
  simp [h0]
set_option maxHeartbeats 3200000 in
set_option maxRecDepth 100000 in
theorem supertorn_law (a b : Int) (c : Array Value) (w : World) (ha : (Lit.int .u64 a).wf = true) (hb : (Lit.int .u64 b).wf = true) (hc : Fits w (Sh.rep .str 2) c.toList) :
    Calls Try.prog 6 #[.int .u64 a, .int .u64 b, .agg c] w fun e w' => e = .returned (.bool true) ∧ Below w.heap.size w w' := by
  obtain ⟨a, rfl, hal⟩ := wf_u64 ha
  obtain ⟨b, rfl, hbl⟩ := wf_u64 hb
  obtain ⟨s0, s1, rfl, hs0, hs1⟩ := fits_strs2 hc
  obtain ⟨M, hM, hM0, hMl⟩ := or_one a hal
  obtain ⟨K, hK, hK0, hKl⟩ := or_one b hbl
  obtain ⟨t0, E0, h0a, h0b, h0c, h0d, h0e⟩ := cut48 s0 hs0
  obtain ⟨t1, E1, h1a, h1b, h1c, h1d, h1e⟩ := cut48 s1 hs1
  have ca := fun w => awake05 w
  have p0 := fun w => sput M E0 w (by omega) hMl h0e
  have p1 := fun w => sput K E1 w (by omega) hKl h1e
  have z0 := putS_size M E0 h0e
  have z1 := putS_size K E1 h1e
  have ht := whole_torn M K E0 E1 (by omega) hMl hKl h0e h1e
  obtain ⟨X, hX⟩ : ∃ X, putS M E0 = X := ⟨_, rfl⟩
  obtain ⟨Y, hY⟩ : ∃ Y, putS K E1 = Y := ⟨_, rfl⟩
  rw [hX] at p0 z0 ht
  rw [hY] at p1 z1 ht
  have z0i : (X.size : Int) = 64 := by omega
  have z1i : (Y.size : Int) = 64 := by omega
  have e1 := ext_size X 0 32 (by omega)
  have e2 := ext_size Y 32 64 (by omega)
  have e3 := ext_size X 0 63 (by omega)
  have e1' : (X.extract 0 32).size ≤ 32 := by omega
  have e2' : (Y.extract 32 64).size ≤ 32 := by omega
  have g63 := fun w => sget_no (X.extract 0 63) w (by unfold wholeB; rw [e3]; simp)
  have gz := fun w => sget_no (zeroL 64) w whole_zero
  have HT := Lib.hid ht
  have k1 : ¬ 9223372036854775807 < 32 + (64 - 32) := by omega
  have hq := Lib.hid (heap_alloc_self w (.cells #[.string s0, .string s1] 50))
  have hb0 : Below w.heap.size w (w.alloc (.cells #[.string s0, .string s1] 50)) := (Below.refl _ _).alloc (Nat.le_refl _) _
  have HB0 := Lib.hid hb0
  unfold maxLen at hs0 hs1
  clear hX hY hal hbl hc ha hb e1 e2 e3 ht hb0
  go_enter Try.func6, Try.ntmps6
  go_upto_region 2 with fail
  generalize w.alloc (.cells #[.string s0, .string s1] 50) = w1 at *
  obtain ⟨q, hqq⟩ : ∃ q, w.heap.size = q := ⟨_, rfl⟩
  rw [hqq] at hq HB0 ⊢
  have hx := hq.out
  have hlt := lt_heap hx
  have d0 : w1.cell? ⟨q, 0, none⟩ = some (.string s0) := by simp [World.cell?, hx]
  have d1 : w1.cell? ⟨q, 1, none⟩ = some (.string s1) := by simp [World.cell?, hx]
  obtain ⟨N, hN⟩ : ∃ N, w1.heap.size = N := ⟨_, rfl⟩
  rw [hN] at hlt
  have HN := Lib.hid hN
  have c0 : ∀ w' : World, N ≤ w'.heap.size → Calls Try.prog 23 #[.int .u64 M, .string E0] w' fun e w'' => e = .returned (.string X) ∧ Stays N w' w'' := fun w' hN => (p0 w').mono fun e w'' h => ⟨h.1, stays_of hN h.2⟩
  have c1 : ∀ w' : World, N ≤ w'.heap.size → Calls Try.prog 23 #[.int .u64 K, .string E1] w' fun e w'' => e = .returned (.string Y) ∧ Stays N w' w'' := fun w' hN => (p1 w').mono fun e w'' h => ⟨h.1, stays_of hN h.2⟩
  clear hx hN p0 p1
  go_cut [9, 10] (fun x y wx => x = .string X ∧ y = .string Y ∧ Below q w wx ∧ q < wx.heap.size)
  case first =>
    go_region_held3 (fun w' => N ≤ w'.heap.size ∧ Below N w1 w' ∧ ∀ b o, b < N → w'.cell? ⟨b, o, none⟩ = w1.cell? ⟨b, o, none⟩) (first | assumption | exact keeps_start HN.out | exact keeps_next (by assumption) (by assumption)) (first | (go_at_call 23; (first | (with_reducible refine Calls.mono (c0 _ (And.left (by assumption))) ?_) | (with_reducible refine Calls.mono (c1 _ (And.left (by assumption))) ?_)); rintro e wz ⟨rfl, hz⟩))
    all_goals
      go_wp2_with fail
      go_meet
      have hh := And.right (by assumption : N ≤ wz.heap.size ∧ Below N w1 wz ∧ ∀ (b o : Nat), b < N → wz.cell? ⟨b, o, none⟩ = w1.cell? ⟨b, o, none⟩)
      have hz := And.left (by assumption : N ≤ wz.heap.size ∧ Below N w1 wz ∧ ∀ (b o : Nat), b < N → wz.cell? ⟨b, o, none⟩ = w1.cell? ⟨b, o, none⟩)
      exact ⟨rfl, rfl, HB0.out.trans (hh.1.mono (by omega)), by omega⟩
  case rest =>
    obtain ⟨rfl, rfl, hbc, hqc⟩ := hcut
    have HB1 := Lib.hid hbc
    clear hbc d0 d1 c0 c1 hq HN hlt HB0 h0a h0b h0c h0d h1a h1b h1c h1d hs0 hs1 hM hK
    obtain ⟨V, U, B, g, hB, hV⟩ : ∃ (V : Nat) (U : ByteArray) (B : Bool), (∀ w, Calls Try.prog 24 #[.string (X.extract 0 32 ++ Y.extract 32 64)] w fun e w' => e = .returned (.tuple #[.int .u64 V, .string U, .bool B]) ∧ Below w.heap.size w w') ∧ B = decide (M = K) ∧ (B = true → V = M) := by
      by_cases hmk : M = K
      · exact ⟨M, _, true, fun w => by have := sget_ok (X.extract 0 32 ++ Y.extract 32 64) w (by rw [HT.out.1]; simp [hmk]); rwa [HT.out.2] at this, by simp [hmk], fun _ => rfl⟩
      · exact ⟨0, _, false, fun w => sget_no (X.extract 0 32 ++ Y.extract 32 64) w (by rw [HT.out.1]; simp [hmk]), by simp [hmk], fun h => by cases h⟩
    have HBB := Lib.hid hB
    have HV := Lib.hid hV
    clear hB hV HT
    obtain ⟨W0, hW0⟩ : ∃ W0, W0 = wc := ⟨_, rfl⟩
    subst hW0
    go_upto_region 5 with fail
    go_cut [11, 12, 13] (fun x y z wx => x = .int .u64 V ∧ y = .string U ∧ z = .bool B ∧ Below q w wx ∧ q < wx.heap.size)
    case first =>
      go_region_with (go_at_call 24; refine Calls.mono (g _) ?_; rintro e wz ⟨rfl, hz⟩)
      all_goals
        go_wp2_with fail
        go_meet
        have hz2 : Below W0.heap.size W0 wz := below_of_drew hz
        exact ⟨rfl, rfl, rfl, HB1.out.trans (hz2.mono (by omega)), Nat.lt_of_lt_of_le hqc hz2.size⟩
    case rest =>
      obtain ⟨rfl, rfl, rfl, hbd, hqd⟩ := hcut
      have HB2 := Lib.hid hbd
      have hcv : ∀ w : World, (convert 47 9 (.slice (some ⟨w.heap.size, 0, none⟩) 64 64)).run Try.prog (w.alloc (.cells (bCells (List.replicate 64 0)).toArray 5)) = .ok (.string (zeroL 64)) (w.alloc (.cells (bCells (List.replicate 64 0)).toArray 5)) := fun w => conv_block (P := Try.prog) (src := 47) (dst := 9) Try.underlying47 Try.underlying5 Try.underlying9 64 (show 64 = (List.replicate 64 (0 : UInt8)).length by simp) (heap_alloc_self w _)
      have hmk : ∀ w, (Instr.makeSlice 47 (.int .i64 64) (.int .i64 64)).run Try.prog w = .ok (.slice (some ⟨w.heap.size, 0, none⟩) 64 64) (w.alloc (.cells (bCells (List.replicate 64 0)).toArray 5)) := fun _ => by kernel_rfl
      obtain ⟨l0, hl0⟩ : ∃ l : List UInt8, List.replicate 64 0 = l := ⟨_, rfl⟩
      rw [hl0] at hcv hmk
      obtain ⟨Z, hZ⟩ : ∃ Z, zeroL 64 = Z := ⟨_, rfl⟩
      rw [hZ] at hcv gz
      clear hbd hl0 hZ g HB1 hqc
      go_wp2_with fail
      refine Calls.mono (g63 _) ?_
      rintro e w3 ⟨rfl, hb3⟩
      have HB3 := Lib.hid (HB2.out.trans (hb3.mono (Nat.le_of_lt hqd)))
      have hq3 : q < w3.heap.size := Nat.lt_of_lt_of_le hqd hb3.size
      clear hb3 HB2 hqd g63
      go_wp2_with fail
      refine Calls.mono (gz _) ?_
      rintro e w4 ⟨rfl, hb4⟩
      have HB4 := Lib.hid ((HB3.out.alloc (Nat.le_of_lt hq3) _).trans (hb4.mono (by simp; omega)))
      have hq4 : q < w4.heap.size := Nat.lt_of_lt_of_le (by simp; omega) hb4.size
      clear hb4 HB3 hq3 gz hcv hmk
      by_cases hmk : M = K
      · have hb : B = true := by rw [HBB.out]; simp [hmk]
        subst hb
        obtain rfl := HV.out rfl
        have h1 : ((V : Int) == (K : Int)) = true := by simp [hmk]
        have h2 : ((V : Int) == (V : Int)) = true := by simp
        clear hmk
        go_wp2_with fail
        refine Calls.mono (ca _) ?_
        rintro e w5 ⟨rfl, hb5⟩
        have HB5 := Lib.hid (HB4.out.trans (hb5.mono (Nat.le_of_lt hq4)))
        clear hb5 ca HB4
        go_wp2_with fail
        go_ret
        exact ⟨ret_bool (by simp), by rw [hqq]; exact HB5.out⟩
      · have hb : B = false := by rw [HBB.out]; simp [hmk]
        subst hb
        have h1 : ((M : Int) == (K : Int)) = false := by simp; omega
        clear hmk
        go_wp2_with fail
        refine Calls.mono (ca _) ?_
        rintro e w5 ⟨rfl, hb5⟩
        have HB5 := Lib.hid (HB4.out.trans (hb5.mono (Nat.le_of_lt hq4)))
        clear hb5 ca HB4
        go_wp2_with fail
        go_ret
        exact ⟨ret_bool (by simp), by rw [hqq]; exact HB5.out⟩
end Go.Proofs.Ytcoliadgnbhkaaa
