/-
  super: halves, Get, Put, may, Write.
-/
import Derived.Test.YtcoliadgnbhkaaaSuper
import Derived.Test.YtcoliadgnbhkaaaHeld
namespace Go.Proofs.Ytcoliadgnbhkaaa
open Go.RowKit
set_option linter.unusedVariables false
set_option linter.unusedSimpArgs false

theorem ext_size (s : ByteArray) (a b : Nat) (h : b ≤ s.size) : (s.extract a b).size = b - a := by simp [ByteArray.size_extract, Nat.min_eq_left h]
theorem qnum {P : Program} {f : FuncId} {args : Array Value} {w : World} {v : Value} (h : Calls P f args w fun e w' => e = .returned v ∧ w = w') : Calls P f args w fun e w' => e = .returned v ∧ w' = w := h.mono fun _ _ h => ⟨h.1, h.2.symm⟩
set_option maxHeartbeats 400000 in
theorem shalves (s : ByteArray) (w : World) (hs : s.size = 64) : Calls Try.prog 50 #[.string s] w fun e w' => e = .returned (.tuple #[.int .u64 (num8 s), .int .u64 (num8 (s.extract 32 64))]) ∧ Below w.heap.size w w' := by
  have hx := ext_size s 32 64 (by omega)
  have c1 := fun w => qnum (snumber s w (by omega) (by omega))
  have c2 := fun w => qnum (snumber (s.extract 32 64) w (by omega) (by omega))
  clear hx
  go_enter Try.func50, Try.ntmps50
  go_upto_region 1 with fail
  go_quiet ((go_at_call 64; first | (with_reducible exact Calls.quiet_of_same (c1 _)) | (with_reducible exact Calls.quiet_of_same (c2 _))))
  go_wp2_with fail
  go_returns
  exact ⟨rfl, below_drewN' (Below.refl _ _) _⟩
/-- a whole sector: its halves are of one time -/
def wholeB (s : ByteArray) : Bool := decide (s.size = 64 ∧ num8 s ≠ 0 ∧ num8 s = num8 (s.extract 32 64))
/-- its word -/
def wordS (s : ByteArray) : ByteArray := s.extract 8 32 ++ s.extract 40 64
set_option maxHeartbeats 400000 in
theorem sget_ok (s : ByteArray) (w : World) (h : wholeB s = true) : Calls Try.prog 24 #[.string s] w fun e w' => e = .returned (.tuple #[.int .u64 (num8 s), .string (wordS s), .bool true]) ∧ Below w.heap.size w w' := by
  obtain ⟨hs, h0, he⟩ := of_decide_eq_true h
  have c1 := fun w => shalves s w hs
  rw [← he] at c1
  obtain ⟨X, hX⟩ : ∃ X, num8 s = X := ⟨_, rfl⟩
  rw [hX] at c1 h0 ⊢
  have h1 : ((X : Int) == 0) = false := by simpa using h0
  have hv : (wordS s) = s.extract 8 32 ++ s.extract 40 64 := rfl
  have HV := Lib.hid hv
  have hz1 := ext_size s 8 32 (by omega)
  have hz2 := ext_size s 40 64 (by omega)
  clear h he h0 hX hv
  go_enter Try.func24, Try.ntmps24
  go_wp2_with fail
  refine Calls.mono (c1 _) ?_
  rintro e w2 ⟨rfl, hb⟩
  have HB := Lib.hid hb
  clear hb
  go_upto_region 6 with fail
  go_quiet (fail)
  go_wp2_with fail
  go_returns
  exact ⟨by rw [HV.out]; rfl, below_drewN' HB.out _⟩
theorem sget_no (s : ByteArray) (w : World) (h : wholeB s = false) : Calls Try.prog 24 #[.string s] w fun e w' => e = .returned (.tuple #[.int .u64 0, .string ⟨#[]⟩, .bool false]) ∧ Below w.heap.size w w' := by
  have h' := of_decide_eq_false h
  by_cases hs : s.size = 64
  · have c1 := fun w => shalves s w hs
    obtain ⟨X, hX⟩ : ∃ X, num8 s = X := ⟨_, rfl⟩
    obtain ⟨Y, hY⟩ : ∃ Y, num8 (s.extract 32 64) = Y := ⟨_, rfl⟩
    rw [hX, hY] at c1 h'
    by_cases h0 : X = 0
    · subst h0
      clear h h' hX hY
      go_enter Try.func24, Try.ntmps24
      go_wp2_with fail
      refine Calls.mono (c1 _) ?_
      rintro e w2 ⟨rfl, hb⟩
      have HB := Lib.hid hb
      clear hb
      go_wp2_with fail
      go_returns
      exact ⟨rfl, HB.out⟩
    · have h1 : ((X : Int) == 0) = false := by simpa using h0
      have hne : X ≠ Y := fun e => h' ⟨hs, h0, e⟩
      have h2 : ((X : Int) == (Y : Int)) = false := by simp; omega
      have h3 : ((X : Int) != (Y : Int)) = true := by simp [bne, h2]
      clear h h' hX hY h0 hne
      go_enter Try.func24, Try.ntmps24
      go_wp2_with fail
      refine Calls.mono (c1 _) ?_
      rintro e w2 ⟨rfl, hb⟩
      have HB := Lib.hid hb
      clear hb
      go_wp2_with fail
      go_returns
      exact ⟨rfl, HB.out⟩
  · have h1 : ((s.size : Int) != 64) = true := by simp; omega
    have h2 : ((s.size : Int) == 64) = false := by simp; omega
    clear h h' hs
    go_enter Try.func24, Try.ntmps24
    go_wp2_with fail
    go_returns
    exact ⟨rfl, Below.refl _ _⟩
/-- a word with noughts behind it -/
def padS (s : ByteArray) : ByteArray := s ++ zeroL (48 - s.size)
/-- a word's sector -/
def putS (n : Nat) (s : ByteArray) : ByteArray := be8 n ++ (padS s).extract 0 24 ++ be8 n ++ (padS s).extract 24 48
theorem padS_size (s : ByteArray) (h : s.size ≤ 48) : (padS s).size = 48 := by rw [padS, ByteArray.size_append, zeroL_size]; omega
theorem putS_size (n : Nat) (s : ByteArray) (h : s.size ≤ 48) : (putS n s).size = 64 := by
  have := padS_size s h
  simp [putS, ByteArray.size_append, be8_size, ByteArray.size_extract, this]
set_option maxHeartbeats 1600000 in
set_option maxRecDepth 100000 in
theorem sput (n : Nat) (s : ByteArray) (w : World) (h0 : n ≠ 0) (hn : n < 18446744073709551616) (hs : s.size ≤ 48) : Calls Try.prog 23 #[.int .u64 n, .string s] w fun e w' => e = .returned (.string (putS n s)) ∧ Below w.heap.size w w' := by
  have cr : ∀ w, Calls Try.prog 48 #[.string ⟨#[0]⟩, .int .i64 (48 - (s.size : Int))] w fun e w' => e = .returned (.string (zeroL (48 - s.size))) ∧ Below w.heap.size w w' := by
    intro w
    rw [show (48 - (s.size : Int)) = ((48 - s.size : Nat) : Int) by omega]
    exact repeat0 _ w (by omega)
  have hp := padS_size s hs
  obtain ⟨Z, hZ⟩ : ∃ Z, zeroL (48 - s.size) = Z := ⟨_, rfl⟩
  have hP : padS s = s ++ Z := by rw [← hZ]; rfl
  obtain ⟨P, hPP⟩ : ∃ P, s ++ Z = P := ⟨_, rfl⟩
  have hZs : Z.size ≤ 48 := by rw [← hZ, zeroL_size]; omega
  simp only [hZ] at cr
  rw [hP, hPP] at hp
  obtain ⟨B, hB⟩ : ∃ B, be8 n = B := ⟨_, rfl⟩
  have hBs : B.size ≤ 8 := by rw [← hB, be8_size]; omega
  have cb : ∀ {N : Nat} (w' : World), N ≤ w'.heap.size → Calls Try.prog 49 #[.int .u64 n] w' fun e w'' => e = .returned (.string B) ∧ Stays N w' w'' := fun w' hN => (sbytes n w' hn).mono fun e w'' h => ⟨by rw [← hB]; exact h.1, stays_of hN h.2⟩
  have hR : putS n s = B ++ P.extract 0 24 ++ B ++ P.extract 24 48 := by rw [putS, hB, hP, hPP]
  have HR := Lib.hid hR
  have h1 : ((n : Int) == 0) = false := by simpa using h0
  have hx1 := ext_size P 0 24 (by omega)
  have hx2 := ext_size P 24 48 (by omega)
  have hx1' : (P.extract 0 24).size ≤ 24 := by omega
  have hx2' : (P.extract 24 48).size ≤ 24 := by omega
  have HPP := Lib.hid hPP
  have HP := Lib.hid hp
  clear hR hZ hP hB h0 hx1 hx2 hPP hp
  go_enter Try.func23, Try.ntmps23
  go_wp2_with fail
  refine Calls.mono (cr _) ?_
  rintro e w2 ⟨rfl, hb⟩
  have HB := Lib.hid hb
  clear hb cr
  have hPP := HPP.out
  have hp := HP.out
  have hp2 : (P.size : Int) = 48 := by omega
  go_upto_region 4 with fail
  obtain ⟨N, hN⟩ : ∃ N, w2.heap.size = N := ⟨_, rfl⟩
  have HN := Lib.hid hN
  clear hN hPP
  have k1 : ¬ 9223372036854775807 < B.size + 24 := by omega
  have k2 : ¬ 9223372036854775807 < B.size + 24 + B.size := by omega
  have k3 : ¬ 9223372036854775807 < B.size + 24 + B.size + 24 := by omega
  have c := fun w' h => cb (N := N) w' h
  go_region_held3 (fun w' => N ≤ w'.heap.size ∧ Below N w2 w' ∧ ∀ b o, b < N → w'.cell? ⟨b, o, none⟩ = w2.cell? ⟨b, o, none⟩) (first | assumption | exact keeps_start HN.out | exact keeps_next (by assumption) (by assumption)) (first | (go_at_call 49; refine Calls.mono (c _ (And.left (by assumption))) ?_; rintro e wz ⟨rfl, hz⟩))
  go_wp2_with fail
  go_ret
  have hh := And.left (And.right (by assumption : N ≤ wz.heap.size ∧ Below N w2 wz ∧ ∀ (b o : Nat), b < N → wz.cell? ⟨b, o, none⟩ = w2.cell? ⟨b, o, none⟩))
  exact ⟨ret_str HR.out.symm, below_trans HB.out (by rw [HN.out]; exact hh) HB.out.size⟩
theorem sput_none (n : Nat) (s : ByteArray) (w : World) (h : n = 0 ∨ 48 < s.size) (hs : s.size ≤ maxLen) : Calls Try.prog 23 #[.int .u64 n, .string s] w fun e w' => e = .returned (.string ⟨#[]⟩) ∧ w = w' := by
  unfold maxLen at hs
  by_cases h0 : n = 0
  · subst h0
    clear h
    go_enter Try.func23, Try.ntmps23
    go_wp2_with fail
    go_ret
    exact ⟨rfl, rfl⟩
  · have h1 : ((n : Int) == 0) = false := by simpa using h0
    have h2 : 48 < s.size := h.resolve_left h0
    clear h h0
    go_enter Try.func23, Try.ntmps23
    go_wp2_with fail
    go_ret
    exact ⟨rfl, rfl⟩
theorem smay (n : Int) (w : World) : Calls Try.prog 51 #[.int .i64 n] w fun e w' => e = .returned (.bool (decide (0 ≤ n) && decide (n ≤ 4096))) ∧ w = w' := by
  by_cases h : 0 ≤ n
  · go_enter Try.func51, Try.ntmps51
    go_wp2_with fail
    go_ret
    exact ⟨ret_bool (by simp [h]), rfl⟩
  · go_enter Try.func51, Try.ntmps51
    go_wp2_with fail
    go_ret
    exact ⟨ret_bool (by simp; omega), rfl⟩
end Go.Proofs.Ytcoliadgnbhkaaa
