/-
  super.Write, upon a disk; reading a pair of a disk's sectors; SuperPuts, SuperTorn.
-/
import Derived.Test.YtcoliadgnbhkaaaSuperC
import Derived.Test.YtcoliadgnbhkaaaDiskD
import Derived.Test.YtcoliadgnbhkaaaDiskE
import Derived.Test.YtcoliadgnbhkaaaDiskI
namespace Go.Proofs.Ytcoliadgnbhkaaa
open Go.RowKit
set_option linter.unusedVariables false
set_option linter.unusedSimpArgs false

theorem swrite_bad (dv : Value) (at' : Int) (n : Nat) (s : ByteArray) (w : World) (hn : n < 18446744073709551616) (hs : s.size ≤ maxLen) (h : n = 0 ∨ 48 < s.size ∨ at' < 0 ∨ 4096 < at') : Calls Try.prog 27 #[dv, .int .i64 at', .int .u64 n, .string s] w fun e w' => e = .returned (.int .i64 1) ∧ Below w.heap.size w w' := by
  by_cases hb : n = 0 ∨ 48 < s.size
  · have c := fun w => sput_none n s w hb hs
    clear hb h hs
    go_enter Try.func27, Try.ntmps27
    go_wp2_with fail
    refine Calls.mono (c _) ?_
    rintro e w2 ⟨rfl, rfl⟩
    go_wp2_with fail
    go_ret
    exact ⟨rfl, Below.refl _ _⟩
  · have hg : (decide (0 ≤ at') && decide (at' ≤ 4096)) = false := by
      have : at' < 0 ∨ 4096 < at' := by omega
      rcases this with h | h <;> simp <;> omega
    have cm := fun w => smay at' w
    rw [hg] at cm
    have c := fun w => sput n s w (by omega) hn (by omega)
    have hz := putS_size n s (by omega)
    obtain ⟨P, hP⟩ : ∃ P, putS n s = P := ⟨_, rfl⟩
    rw [hP] at c hz
    have hne : P ≠ ⟨#[]⟩ := fun e => by rw [e] at hz; cases hz
    have n1 := ba_ne hne
    have n2 := ba_empty hne
    have n3 : P.toList.isEmpty = false := by simpa using n2
    clear hb h hs hg hP hz hne
    go_enter Try.func27, Try.ntmps27
    go_wp2_with fail
    refine Calls.mono (c _) ?_
    rintro e w2 ⟨rfl, hb⟩
    have HB := Lib.hid hb
    clear hb
    go_wp2_with fail
    refine Calls.mono (cm _) ?_
    rintro e w2 ⟨rfl, rfl⟩
    go_wp2_with fail
    go_ret
    exact ⟨rfl, HB.out⟩
set_option maxHeartbeats 800000 in
theorem swrite (at' n : Nat) (s : ByteArray) (w : World) (N p : Nat) (sv lv : Value) (S : List ByteArray) (L : List (Nat × ByteArray)) (h : Dsk w N p sv lv S L) (hL : L.length ≤ 1000000) (h0 : n ≠ 0) (hn : n < 18446744073709551616) (hs : s.size ≤ 48) (ha : at' ≤ 4096) (hat : at' + n % 2 < S.length) :
    Calls Try.prog 27 #[.pointer (some ⟨p, 0, none⟩), .int .i64 at', .int .u64 n, .string s] w fun e w' => e = .returned (.int .i64 0) ∧ ∃ v2, Dsk w' N p sv v2 S (L ++ [(at' + n % 2, putS n s)]) ∧ DKept w w' N p sv lv v2 := by
  have hg : (decide (0 ≤ (at' : Int)) && decide ((at' : Int) ≤ 4096)) = true := by simp; omega
  have cm := fun w => smay at' w
  rw [hg] at cm
  have c := fun w => sput n s w h0 hn hs
  have hz := putS_size n s hs
  have cw := fun (w' : World) (hb : Below w.heap.size w w') => dwrite (at' + n % 2) (putS n s) w' N p sv lv S L (h.below hb) hat (by omega) hL
  have hzz : putS n s ++ zeroL (64 - (putS n s).size) = putS n s := by
    rw [hz]
    apply str_ext
    simp [zeroL]
  simp only [hzz] at cw
  obtain ⟨P, hP⟩ : ∃ P, putS n s = P := ⟨_, rfl⟩
  rw [hP] at c hz ⊢
  simp only [hP] at cw
  have hne : P ≠ ⟨#[]⟩ := fun e => by rw [e] at hz; cases hz
  have n1 := ba_ne hne
  have n2 := ba_empty hne
  have n3 : P.toList.isEmpty = false := by simpa using n2
  have HD := Lib.hid h
  simp only [show ((at' + n % 2 : Nat) : Int) = (at' : Int) + (n : Int) % 2 by omega] at cw
  have CW := Lib.hid cw
  clear hs hg hP hz hne hzz h h0 cw
  have hm1 : (n : Int) % 2 < 2 := by omega
  have hm0 : 0 ≤ (n : Int) % 2 := by omega
  go_enter Try.func27, Try.ntmps27
  go_wp2_with fail
  refine Calls.mono (c _) ?_
  rintro e w2 ⟨rfl, hb⟩
  have HB := Lib.hid hb
  have c2 := CW.out w2 hb
  clear hb
  go_wp2_with fail
  refine Calls.mono (cm _) ?_
  rintro e w2 ⟨rfl, rfl⟩
  go_wp2_with fail
  refine Calls.mono c2 ?_
  rintro e w3 ⟨rfl, v2, hd, hk⟩
  have HD2 := Lib.hid hd
  have HK := Lib.hid ((DKept.of_below HD.out.le HB.out).trans hk)
  clear hd hk
  go_wp2_with fail
  go_ret
  exact ⟨rfl, v2, HD2.out, HK.out⟩
set_option maxHeartbeats 800000 in
theorem swrite_out (at' n : Nat) (s : ByteArray) (w : World) (N p : Nat) (sv lv : Value) (S : List ByteArray) (L : List (Nat × ByteArray)) (h : Dsk w N p sv lv S L) (h0 : n ≠ 0) (hn : n < 18446744073709551616) (hs : s.size ≤ 48) (ha : at' ≤ 4096) (hat : ¬ at' + n % 2 < S.length) :
    Calls Try.prog 27 #[.pointer (some ⟨p, 0, none⟩), .int .i64 at', .int .u64 n, .string s] w fun e w' => e = .returned (.int .i64 1) ∧ Below w.heap.size w w' := by
  have hg : (decide (0 ≤ (at' : Int)) && decide ((at' : Int) ≤ 4096)) = true := by simp; omega
  have cm := fun w => smay at' w
  rw [hg] at cm
  have c := fun w => sput n s w h0 hn hs
  have hz := putS_size n s hs
  have cw := fun (w' : World) (hb : Below w.heap.size w w') => dwrite_none ((at' + n % 2 : Nat) : Int) (putS n s) w' N p sv lv S L (h.below hb) (.inl (by omega))
  obtain ⟨P, hP⟩ : ∃ P, putS n s = P := ⟨_, rfl⟩
  rw [hP] at c hz
  simp only [hP] at cw
  have hne : P ≠ ⟨#[]⟩ := fun e => by rw [e] at hz; cases hz
  have n1 := ba_ne hne
  have n2 := ba_empty hne
  have n3 : P.toList.isEmpty = false := by simpa using n2
  simp only [show ((at' + n % 2 : Nat) : Int) = (at' : Int) + (n : Int) % 2 by omega] at cw
  have CW := Lib.hid cw
  clear hs hg hP hz hne h h0 cw
  have hm1 : (n : Int) % 2 < 2 := by omega
  have hm0 : 0 ≤ (n : Int) % 2 := by omega
  go_enter Try.func27, Try.ntmps27
  go_wp2_with fail
  refine Calls.mono (c _) ?_
  rintro e w2 ⟨rfl, hb⟩
  have HB := Lib.hid hb
  have c2 := CW.out w2 hb
  clear hb
  go_wp2_with fail
  refine Calls.mono (cm _) ?_
  rintro e w2 ⟨rfl, rfl⟩
  go_wp2_with fail
  refine Calls.mono c2 ?_
  rintro e w3 ⟨rfl, rfl⟩
  go_wp2_with fail
  go_ret
  exact ⟨rfl, HB.out⟩
end Go.Proofs.Ytcoliadgnbhkaaa
