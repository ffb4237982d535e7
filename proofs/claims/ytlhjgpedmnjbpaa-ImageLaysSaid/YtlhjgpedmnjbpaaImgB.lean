/-
  image: run, the program's and the document's: how many bytes there are of the first one.
-/
import Derived.Test.YtlhjgpedmnjbpaaImg
namespace Go.Proofs.Ytlhjgpedmnjbpaa
open Go.RowKit
set_option linter.unusedVariables false
set_option linter.unusedSimpArgs false

theorem str_at' (s : ByteArray) (k : Nat) (h : k < s.size) : s[k] = s.data.toList.getD k 0 := by
  obtain ⟨⟨l⟩⟩ := s
  have h' : k < l.length := by simpa [ByteArray.size] using h
  simp [List.getD, h']
  rfl
theorem byte_ne {a b : UInt8} (h : ¬ a = b) : ((a.toNat : Int) == (b.toNat : Int)) = false := by
  simp only [beq_eq_false_iff_ne, ne_eq]
  intro e
  exact h (UInt8.toNat_inj.1 (by omega))
theorem byte_eq {a b : UInt8} (h : a = b) : ((a.toNat : Int) == (b.toNat : Int)) = true := by subst h; simp

set_option maxHeartbeats 1600000 in
set_option maxRecDepth 100000 in
theorem irun (c : UInt8) (l : List UInt8) (s : ByteArray) (hs : s.data.toList = c :: l) (hm : s.size ≤ 1073741824) (w : World) :
    Calls Try.prog 114 #[.string s] w fun e w' => e = .returned (.int .i64 (runN (c :: l))) ∧ ∃ q, w' = w.drewN q := by
  have hsz : s.size = (c :: l).length := by rw [← hs]; exact (Array.length_toList).symm
  have h0 : 0 < s.size := by rw [hsz]; simp
  have hR := runN_le (c :: l)
  rw [← hsz] at hR
  have hpos := runN_pos c l
  have hat := fun (k : Nat) (h : k < s.size) (hk : k ≤ runN (c :: l)) => runN_at c l k (by rw [← hsz]; exact h) hk
  have hb : ∀ (k : Nat) (h : k < s.size), s[k] = (c :: l).getD k 0 := fun k h => by rw [str_at' s k h, hs]
  obtain ⟨R, hRe⟩ : ∃ R, runN (c :: l) = R := ⟨_, rfl⟩
  rw [hRe] at hR hpos hat
  rw [hRe]
  have hb0 : s[0] = c := by rw [hb 0 h0]; rfl
  have HAT := Lib.hid hat
  have HB := Lib.hid hb
  have HB0 := Lib.hid hb0
  clear hs hsz hRe hat hb hb0
  go_enter Try.func114, Try.ntmps114
  go_wp2_with fail
  go_loopw [3] (fun v wr => ∃ k : Nat, 1 ≤ k ∧ k ≤ R ∧ v = .int .i64 k ∧ ∃ q, wr = w.drewN q) (fun v _ => R - (intOf v).toNat)
  case atStart => exact ⟨1, by omega, by omega, rfl, 0, rfl⟩
  case round =>
    obtain ⟨k, hk1, hk2, rfl, q, rfl⟩ := hrel
    by_cases hlt : k < s.size
    · have hi := HAT.out k hlt hk2
      rw [← HB.out k hlt, ← HB0.out] at hi
      have hk63 : (k : Int) + 1 ≤ 9223372036854775807 := by omega
      by_cases hkR : k < R
      · have ht := byte_eq (hi.2 hkR)
        clear hi
        go_wp2_with fail
        go_quiet (fail)
        go_wp2_with fail
        go_roundw
        case rel => exact ⟨k + 1, by omega, by omega, by go_num, _, rfl⟩
        case measure => simp [intOf]; omega
      · have ht := byte_ne (fun e => hkR (hi.1 e))
        obtain rfl : k = R := by omega
        clear hi
        go_wp2_with fail
        go_quiet (fail)
        go_wp2_with fail
        go_ret
        exact ⟨rfl, _, World.drewN_drewN _ _ _⟩
    · obtain rfl : k = R := by omega
      have ht : decide ((k : Int) < (s.size : Int)) = false := by simp; omega
      go_wp2_with fail
      go_quiet (fail)
      go_wp2_with fail
      go_ret
      exact ⟨rfl, _, World.drewN_drewN _ _ _⟩

set_option maxHeartbeats 1600000 in
set_option maxRecDepth 100000 in
theorem rrun (c : UInt8) (l : List UInt8) (s : ByteArray) (hs : s.data.toList = c :: l) (hm : s.size ≤ 1073741824) (w : World) :
    Calls Try.prog 120 #[.string s] w fun e w' => e = .returned (.int .i64 (runN (c :: l))) ∧ ∃ q, w' = w.drewN q := by
  have hsz : s.size = (c :: l).length := by rw [← hs]; exact (Array.length_toList).symm
  have h0 : 0 < s.size := by rw [hsz]; simp
  have hR := runN_le (c :: l)
  rw [← hsz] at hR
  have hpos := runN_pos c l
  have hat := fun (k : Nat) (h : k < s.size) (hk : k ≤ runN (c :: l)) => runN_at c l k (by rw [← hsz]; exact h) hk
  have hb : ∀ (k : Nat) (h : k < s.size), s[k] = (c :: l).getD k 0 := fun k h => by rw [str_at' s k h, hs]
  obtain ⟨R, hRe⟩ : ∃ R, runN (c :: l) = R := ⟨_, rfl⟩
  rw [hRe] at hR hpos hat
  rw [hRe]
  have hb0 : s[0] = c := by rw [hb 0 h0]; rfl
  have HAT := Lib.hid hat
  have HB := Lib.hid hb
  have HB0 := Lib.hid hb0
  clear hs hsz hRe hat hb hb0
  go_enter Try.func120, Try.ntmps120
  go_wp2_with fail
  go_loopw [3] (fun v wr => ∃ k : Nat, 0 ≤ k ∧ k ≤ R ∧ v = .int .i64 k ∧ ∃ q, wr = w.drewN q) (fun v _ => R - (intOf v).toNat)
  case atStart => exact ⟨0, by omega, by omega, rfl, 0, rfl⟩
  case round =>
    obtain ⟨k, hk1, hk2, rfl, q, rfl⟩ := hrel
    by_cases hlt : k < s.size
    · have hi := HAT.out k hlt hk2
      rw [← HB.out k hlt, ← HB0.out] at hi
      have hk63 : (k : Int) + 1 ≤ 9223372036854775807 := by omega
      by_cases hkR : k < R
      · have ht := byte_eq (hi.2 hkR)
        clear hi
        go_wp2_with fail
        go_quiet (fail)
        go_wp2_with fail
        go_roundw
        case rel => exact ⟨k + 1, by omega, by omega, by go_num, _, rfl⟩
        case measure => simp [intOf]; omega
      · have ht := byte_ne (fun e => hkR (hi.1 e))
        obtain rfl : k = R := by omega
        clear hi
        go_wp2_with fail
        go_quiet (fail)
        go_wp2_with fail
        go_ret
        exact ⟨rfl, _, World.drewN_drewN _ _ _⟩
    · obtain rfl : k = R := by omega
      have ht : decide ((k : Int) < (s.size : Int)) = false := by simp; omega
      go_wp2_with fail
      go_quiet (fail)
      go_wp2_with fail
      go_ret
      exact ⟨rfl, _, World.drewN_drewN _ _ _⟩
end Go.Proofs.Ytlhjgpedmnjbpaa
