/-
  The waking call of layer 1's statements: a number there and back.
-/
import Derived.Test.YtbfomdojahaimaaNumH
namespace Go.Proofs.Ytbfomdojahaimaa
open Go.RowKit
set_option linter.unusedVariables false

theorem put300 : putN 300 = [2, 1, 44] := by decide +kernel
theorem put2 : putN 2 = [1, 2] := by decide +kernel
theorem aw_v : (⟨[2, 1, 44, 1, 2, 97, 98], 0⟩ : RS).numV 300 = 300 := by decide +kernel
theorem aw_s : (⟨[2, 1, 44, 1, 2, 97, 98], 0⟩ : RS).numS 300 = ⟨[1, 2, 97, 98], 0⟩ := by rfl
theorem aw_t : (⟨[1, 2, 97, 98], 0⟩ : RS).textB 2 = [97, 98] := by decide +kernel
theorem aw_u : (⟨[1, 2, 97, 98], 0⟩ : RS).textS 2 = ⟨[], 0⟩ := by rfl
theorem aw_e : (⟨[], 0⟩ : RS).endS = ⟨[], 0⟩ := by rfl
set_option maxHeartbeats 800000 in
theorem awake_any (w : World) : Calls Try.prog 6 #[] w fun e w' => e = .returned (.bool true) ∧ Below w.heap.size w w' := by
  have hlen : [2, 1, 44].length + ([1, 2, 97, 98] : List UInt8).length ≤ 9223372036854775807 := by decide
  go_enter Try.func6, Try.ntmps6
  go_wp2_with fail
  refine (put_any 300 _ ⟨by omega, by omega⟩).mono ?_
  rintro e w1 ⟨rfl, hb1⟩
  rw [show putN (300 : Int).toNat = [2, 1, 44] from put300]
  go_wp2_with fail
  refine (text_any [97, 98] _ (by decide)).mono ?_
  rintro e w2 ⟨rfl, hb2⟩
  rw [show putN ([97, 98] : List UInt8).length ++ [97, 98] = [1, 2, 97, 98] from by rw [show ([97, 98] : List UInt8).length = 2 from rfl, put2]; rfl]
  go_wp2_with fail
  refine (from_any _ _).mono ?_
  rintro e w3 ⟨rfl, hw3⟩
  have hb12 : Below w.heap.size w w2 := hb1.trans (hb2.mono hb1.size)
  have hs3 : Src w3 w2.heap.size ⟨[2, 1, 44, 1, 2, 97, 98], 0⟩ := by
    subst hw3
    exact heap_alloc_self _ _
  have hb3 : Below w.heap.size w w3 := by
    subst hw3
    exact hb12.alloc hb12.size _
  have hge : w.heap.size ≤ w2.heap.size := hb12.size
  obtain ⟨b, hb⟩ : ∃ b, w2.heap.size = b := ⟨_, rfl⟩
  rw [hb] at hs3 hge ⊢
  clear hw3 hb hb12 hb2 hb1
  have HS3 := Lib.hid hs3
  clear hs3
  go_wp2_with fail
  refine (put_any 300 _ ⟨by omega, by omega⟩).mono ?_
  rintro e w4 ⟨rfl, hb4⟩
  rw [show putN (300 : Int).toNat = [2, 1, 44] from put300]
  have HS4 := Lib.hid (HS3.out.below hb4)
  go_wp2_with fail
  refine (num_src b _ 300 _ ⟨by omega, by omega⟩ HS4.out).mono ?_
  rw [show (300 : Int).toNat = 300 from rfl, aw_v, aw_s]
  rintro e w5 ⟨rfl, hs5, ho5⟩
  have HS5 := Lib.hid hs5
  clear hs5
  go_wp2_with fail
  refine (text_src b _ 2 _ HS5.out).mono ?_
  rw [aw_t, aw_u]
  rintro e w6 ⟨rfl, hs6, ho6⟩
  have HS6 := Lib.hid hs6
  clear hs6
  go_wp2_with fail
  refine (end_src b _ _ HS6.out).mono ?_
  rw [aw_e]
  rintro e w7 ⟨rfl, hs7, ho7⟩
  have HS7 := Lib.hid hs7
  clear hs7
  go_wp2
  go_ret
  have h34 : Below w.heap.size w w4 := hb3.trans (hb4.mono hb3.size)
  exact ⟨rfl, h34.trans (((ho5.trans ho6).trans ho7).below hge h34.size)⟩

set_option maxHeartbeats 800000 in
/-- NumNone's walk -/
theorem none_walk (n : Int) (most : Int) (w : World) (hn : n ≤ 9223372036854775807) :
    Calls Try.prog 5 #[.int .i64 n, .int .u64 most] w fun e w' => e = .returned (.bool true) ∧ Below w.heap.size w w' := by
  go_enter Try.func5, Try.ntmps5
  go_wp2_with (go_at_call 26; refine (wrong_nil _ _).mono ?_; rintro e w' ⟨rfl, rfl⟩)
  refine (awake_any _).mono ?_
  rintro e w1 ⟨rfl, hb⟩
  go_wp2_with (first | (go_at_call 25; refine (err_nil _).mono ?_; rintro e w' ⟨rfl, rfl⟩) | (go_at_call 27; refine (left_nil _).mono ?_; rintro e w' ⟨rfl, rfl⟩) | (go_at_call 28; refine (take_nil _ _).mono ?_; rintro e w' ⟨rfl, rfl⟩) | (go_at_call 18; refine (num_nil _ _).mono ?_; rintro e w' ⟨rfl, rfl⟩) | (go_at_call 29; refine (int_nil _ _ hn).mono ?_; rintro e w' ⟨rfl, rfl⟩) | (go_at_call 20; refine (sword_nil _).mono ?_; rintro e w' ⟨rfl, rfl⟩) | (go_at_call 19; refine (text_nil _ _).mono ?_; rintro e w' ⟨rfl, rfl⟩) | (go_at_call 30; refine (bool_nil _).mono ?_; rintro e w' ⟨rfl, rfl⟩) | (go_at_call 21; refine (slist_nil _ _ _ hn).mono ?_; rintro e w' ⟨rfl, rfl⟩) | (go_at_call 24; refine (end_nil _).mono ?_; rintro e w' ⟨rfl, rfl⟩))
  go_ret
  exact ⟨rfl, hb⟩
theorem none_law (n most : Int) (w : World) (hn : (Lit.int .i64 n).wf = true) (_hm : (Lit.int .u64 most).wf = true) :
    Calls Try.prog 5 #[.int .i64 n, .int .u64 most] w fun e w' => e = .returned (.bool true) ∧ Below w.heap.size w w' :=
  none_walk n most w (by simp [Lit.wf, IntKind.min, IntKind.max, IntKind.signed, IntKind.bits] at hn; omega)
end Go.Proofs.Ytbfomdojahaimaa
