/-
  Several texts, laid together.
-/
import Derived.Test.YtgnnijpfkgmomaaGreatDoorHeld
import Derived.Test.YtgnnijpfkgmomaaGreatDoorShelf
import Derived.BigQuiet
import Derived.Deep.QuietTactic
/-
  Noughts: strings.Repeat of one byte of 0. Of any program that has it on its shelf.
-/


namespace Go.Proofs.YtgnnijpfkgmomaaGreatDoor
open Go.RowKit
set_option linter.unusedVariables false

def zeroL (n : Nat) : ByteArray := ⟨(List.replicate n 0).toArray⟩
theorem repeat0 (n : Nat) (w : World) (hn : n ≤ 140737488355328) : Calls Tryz.prog 79 #[.string ⟨#[0]⟩, .int .i64 n] w fun e w' => e = .returned (.string (zeroL n)) ∧ Below w.heap.size w w' := by
  have h := Tryz.strings_Repeat ⟨#[0]⟩ n w (by omega) (by show 1 * n ≤ _; omega)
  have e : Lib.repeatL [0] n = List.replicate n 0 := by
    have := Lib.repeatL_replicate 0 1 n
    simpa using this
  refine h.mono fun e' w' hw => ⟨?_, hw.2⟩
  rw [hw.1]
  show Ending.returned (.string ⟨(Lib.repeatL [0] n).toArray⟩) = _
  rw [e]; rfl
theorem zeroL_size (n : Nat) : (zeroL n).size = n := by simp [zeroL, ByteArray.size]
end Go.Proofs.YtgnnijpfkgmomaaGreatDoor
/-
  strings.Trim of noughts, the cutset being one nought: nothing is left.
-/




namespace Go.Proofs.YtgnnijpfkgmomaaGreatDoor
open Go.RowKit
set_option linter.unusedVariables false
set_option linter.unusedSimpArgs false

theorem zero_get (m k : Nat) (h : k < (zeroL m).size) : (zeroL m)[k] = 0 := by
  have : (zeroL m)[k] = (List.replicate m (0 : UInt8)).toArray[k]'(by rw [zeroL_size] at h; simpa using h) := rfl
  rw [this]
  simp
theorem zero_front (m : Nat) (h : 0 < m) : (zeroL m).extract 0 (m - 1) = zeroL (m - 1) := by
  apply str_ext
  rw [Lib.extract_data]
  show ((List.replicate m (0 : UInt8)).drop 0).take (m - 1 - 0) = List.replicate (m - 1) 0
  rw [List.drop_zero, List.take_replicate]
  congr 1
  omega
theorem trim_right (m : Nat) (w : World) (hm : m ≤ 1000000) : Calls Tryz.prog 54 #[.string (zeroL m), .int .u8 0] w fun e w' => e = .returned (.string ⟨#[]⟩) ∧ w = w' := by
  go_enter Tryz.func54, Tryz.ntmps54
  go_wp2_with fail
  go_loopw [0] (fun sv wr => ∃ j : Nat, j ≤ 1000000 ∧ sv = .string (zeroL j) ∧ w = wr) (fun sv _ => match sv with | .string s => s.size | _ => 0)
  case atStart => exact ⟨m, hm, rfl, rfl⟩
  case round =>
    obtain ⟨j, hj, rfl, rfl⟩ := hrel
    have hsz := zeroL_size j
    by_cases h0 : 0 < j
    · have hji : 0 < (j : Int) := by omega
      have hg := zero_get j (j - 1)
      have hf := zero_front j h0
      have hcast : ((j : Int) - 1).toNat = j - 1 := by omega
      obtain ⟨Z, hZ⟩ : ∃ Z, zeroL j = Z := ⟨_, rfl⟩
      have hZ2 := zeroL_size (j - 1)
      rw [hZ] at hsz hf
      have hg' : ∀ h : j - 1 < Z.size, Z[j - 1]'h = 0 := by subst hZ; exact hg
      rw [hZ]
      have hgg := hg' (by omega)
      obtain ⟨Y, hY⟩ : ∃ Y, zeroL (j - 1) = Y := ⟨_, rfl⟩
      rw [hY] at hf hZ2
      have HY := Lib.hid hY
      clear hg hZ hY
      go_wp2_with fail
      go_roundw
      case rel => exact ⟨j - 1, by omega, by rw [HY.out], trivial⟩
      case measure => show Y.size < Z.size; omega
    · obtain rfl : j = 0 := by omega
      go_wp2_with fail
      go_returns
      exact ⟨rfl, rfl⟩
theorem str_ne {s : ByteArray} (h : s.size ≠ 0) : s.toList.isEmpty = false := by
  rw [ByteArray.toList_eq]
  cases hl : s.data.toList with
  | nil => exact absurd (show s.data.size = 0 by rw [← Array.length_toList, hl]; rfl) h
  | cons a l => rfl
theorem trim_left (w : World) : Calls Tryz.prog 53 #[.string ⟨#[]⟩, .int .u8 0] w fun e w' => e = .returned (.string ⟨#[]⟩) ∧ w = w' := by
  go_enter Tryz.func53, Tryz.ntmps53
  go_wp2_with fail
  go_loopw [0] (fun sv wr => sv = .string ⟨#[]⟩ ∧ w = wr) (fun _ _ => 0)
  case atStart => exact ⟨rfl, rfl⟩
  case round =>
    obtain ⟨rfl, rfl⟩ := hrel
    go_wp2_with fail
    go_returns
    exact ⟨rfl, rfl⟩
set_option maxRecDepth 100000 in
theorem jtrim (m : Nat) (w : World) (hm : m ≤ 1000000) : Calls Tryz.prog 33 #[.string (zeroL m), .string ⟨#[0]⟩] w fun e w' => e = .returned (.string ⟨#[]⟩) ∧ Below w.heap.size w w' := by
  have hr := fun w => trim_right m w hm
  have hsz := zeroL_size m
  by_cases h0 : 0 < m
  · obtain ⟨Z, hZ⟩ : ∃ Z, zeroL m = Z := ⟨_, rfl⟩
    rw [hZ] at hr hsz ⊢
    have hne := str_ne (s := Z) (by omega)
    obtain ⟨C, hC⟩ : ∃ C : ByteArray, (⟨#[0]⟩ : ByteArray) = C := ⟨_, rfl⟩
    have hc1 : C.size = 1 := by rw [← hC]; rfl
    have hc0 : ∀ h : 0 < C.size, C[0]'h = 0 := by subst hC; intro h; rfl
    have hcc := hc0 (by omega)
    have hci : (0 : Int) < (C.size : Int) := by omega
    have hcn : 0 < C.size := by omega
    have hne2 := str_ne (s := C) (by omega)
    rw [hC]
    clear hZ hC hc0
    go_enter Tryz.func33, Tryz.ntmps33
    go_upto_region 4 with fail
    go_quiet ((first | (go_at_call 54; exact Calls.quiet_of_same ((hr _).mono fun _ _ h => ⟨h.1, h.2.symm⟩)) | (go_at_call 53; exact Calls.quiet_of_same ((trim_left _).mono fun _ _ h => ⟨h.1, h.2.symm⟩))))
    go_wp2_with fail
    go_returns
    exact ⟨rfl, below_drewN' (Below.refl _ _) _⟩
  · obtain rfl : m = 0 := by omega
    have e : zeroL 0 = ⟨#[]⟩ := rfl
    rw [e]
    go_enter Tryz.func33, Tryz.ntmps33
    go_wp2_with fail
    go_returns
    exact ⟨rfl, Below.refl _ _⟩
end Go.Proofs.YtgnnijpfkgmomaaGreatDoor
