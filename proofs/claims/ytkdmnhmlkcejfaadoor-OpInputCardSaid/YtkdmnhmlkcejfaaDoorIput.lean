/-
  Items there and back: what may be, and what is put (layer 8).
-/
import Derived.Test.YtkdmnhmlkcejfaaDoorItemC
import Derived.Test.YtkdmnhmlkcejfaaDoorNumM
import Derived.Test.YtkdmnhmlkcejfaaDoorFits
namespace Go.Proofs.YtkdmnhmlkcejfaaDoor
open Go.RowKit
set_option linter.unusedVariables false
set_option linter.unusedSimpArgs false

theorem refzeros (w : World) : Calls Tryd.prog 29 #[] w fun e w' => e = .returned (.string (zeroL 32)) ∧ Below w.heap.size w w' := by
  go_enter Tryd.func29, Tryd.ntmps29
  go_wp2_with fail
  go_ret
  exact ⟨rfl, Below.refl _ _⟩
theorem rmay_none (v : Int) (w : World) : Calls Tryd.prog 7 #[.agg (itemA v ⟨#[]⟩)] w fun e w' => e = .returned (.bool true) ∧ Below w.heap.size w w' := by
  unfold itemA
  go_enter Tryd.func7, Tryd.ntmps7
  go_upto_region 1 with fail
  go_quiet (fail)
  go_wp2_with fail
  go_ret
  exact ⟨rfl, below_drewN' (by go_grown) _⟩
theorem imay_bad (v : Int) (D : ByteArray) (w : World) (hn : D ≠ ⟨#[]⟩) (hs : D.size ≠ 32) : Calls Tryd.prog 24 #[.agg (itemA v D)] w fun e w' => e = .returned (.bool false) ∧ Below w.heap.size w w' := by
  unfold itemA
  have h1 := ba_empty hn
  have h1' : (D.toList == []) = false := by rw [beq_eq_false_iff_ne]; exact h1
  have h1e : (D.toList == (⟨#[]⟩ : ByteArray).toList) = false := ba_ne hn
  have h5 : ((D.size : Int) == 32) = false := by simpa using fun h : (D.size : Int) = 32 => hs (by omega)
  have h6 : ¬ (D.size : Int) = 32 := by omega
  go_enter Tryd.func24, Tryd.ntmps24
  go_upto_region 1 with fail
  go_quiet (fail)
  go_wp2_with fail
  go_ret
  exact ⟨rfl, below_drewN' (by go_grown) _⟩
theorem rmay_bad (v : Int) (D : ByteArray) (w : World) (hn : D ≠ ⟨#[]⟩) (hs : D.size ≠ 32) : Calls Tryd.prog 7 #[.agg (itemA v D)] w fun e w' => e = .returned (.bool false) ∧ Below w.heap.size w w' := by
  unfold itemA
  have h1 := ba_empty hn
  have h1' : (D.toList == []) = false := by rw [beq_eq_false_iff_ne]; exact h1
  have h1e : (D.toList == (⟨#[]⟩ : ByteArray).toList) = false := ba_ne hn
  have h5 : ((D.size : Int) == 32) = false := by simpa using fun h : (D.size : Int) = 32 => hs (by omega)
  have h6 : ¬ (D.size : Int) = 32 := by omega
  go_enter Tryd.func7, Tryd.ntmps7
  go_upto_region 1 with fail
  go_quiet (fail)
  go_wp2_with fail
  go_ret
  exact ⟨rfl, below_drewN' (by go_grown) _⟩
set_option maxRecDepth 100000 in
theorem imay_zero (v : Int) (D : ByteArray) (w : World) (hs : D.size = 32) (hD : D = zeroL 32) : Calls Tryd.prog 24 #[.agg (itemA v D)] w fun e w' => e = .returned (.bool false) ∧ Below w.heap.size w w' := by
  unfold itemA
  have hn : D ≠ ⟨#[]⟩ := fun h => by rw [h] at hs; cases hs
  have h1 := ba_empty hn
  have h1' : (D.toList == []) = false := by rw [beq_eq_false_iff_ne]; exact h1
  have h1e : (D.toList == (⟨#[]⟩ : ByteArray).toList) = false := ba_ne hn
  have h2 : (D.toList == (zeroL 32).toList) = true := by rw [hD]; simp
  have cz := fun w => inoughts w
  rw [← hD] at h2 cz
  clear hD
  obtain ⟨Z, hZ⟩ : ∃ Z, D = Z := ⟨_, rfl⟩
  subst hZ
  have h4 : (D.size : Int) = 32 := by omega
  have h5 : ((D.size : Int) == 32) = true := by simp [hs]
  have hb0 : Below w.heap.size w (w.alloc (.cells #[.int .u64 v, .string D] 28)) := (Below.refl _ _).alloc (Nat.le_refl _) _
  have hx := heap_alloc_self w (.cells #[.int .u64 v, .string D] 28)
  have hz : (w.alloc (.cells #[.int .u64 v, .string D] 28)).heap.size = w.heap.size + 1 := by simp
  go_enter Tryd.func24, Tryd.ntmps24
  go_upto_region 1 with fail
  generalize w.alloc (.cells #[.int .u64 v, .string D] 28) = w1 at *
  have k1 : w1.cell? ⟨w.heap.size, 1, none⟩ = some (.string D) := by simp [World.cell?, hx]
  obtain ⟨N, hN⟩ : ∃ N, w1.heap.size = N := ⟨_, rfl⟩
  have HN := Lib.hid hN
  have HB := Lib.hid hb0
  have hlt : w.heap.size < N := by omega
  have cs : ∀ w', N ≤ w'.heap.size → Calls Tryd.prog 48 #[] w' fun x w'' => x = .returned (.string D) ∧ Stays N w' w'' := fun w' h => (cz w').mono fun e w'' ⟨he, hw⟩ => ⟨he, stays_of h hw⟩
  clear hx hz hN hb0 cz
  go_region_held3 (fun w' => N ≤ w'.heap.size ∧ Below N w1 w' ∧ ∀ b o, b < N → w'.cell? ⟨b, o, none⟩ = w1.cell? ⟨b, o, none⟩) (first | assumption | exact keeps_start HN.out | exact keeps_next (by assumption) (by assumption)) (first | (go_at_call 48; refine Calls.mono (cs _ (And.left (by assumption))) ?_; rintro e wz ⟨rfl, hz⟩))
  rename_i hfin
  have FIN := Lib.hid hfin.2.1
  clear hfin
  go_wp2_with fail
  go_ret
  exact ⟨rfl, HB.out.trans (FIN.out.mono (Nat.le_of_lt hlt))⟩
set_option maxRecDepth 100000 in
theorem rmay_some (v : Int) (D : ByteArray) (w : World) (hs : D.size = 32) (hD : D ≠ zeroL 32) : Calls Tryd.prog 7 #[.agg (itemA v D)] w fun e w' => e = .returned (.bool true) ∧ Below w.heap.size w w' := by
  unfold itemA
  have hn : D ≠ ⟨#[]⟩ := fun h => by rw [h] at hs; cases hs
  have h1 := ba_empty hn
  have h1' : (D.toList == []) = false := by rw [beq_eq_false_iff_ne]; exact h1
  have h1e : (D.toList == (⟨#[]⟩ : ByteArray).toList) = false := ba_ne hn
  have h2 := ba_ne hD
  obtain ⟨Z, hZ⟩ : ∃ Z, zeroL 32 = Z := ⟨_, rfl⟩
  have cz := fun w => refzeros w
  rw [hZ] at h2 cz hD
  have h6 : ¬ D.toList = Z.toList := fun e => by rw [e] at h2; simp at h2
  have h4 : (D.size : Int) = 32 := by omega
  have h5 : ((D.size : Int) == 32) = true := by simp [hs]
  have hb0 : Below w.heap.size w (w.alloc (.cells #[.int .u64 v, .string D] 28)) := (Below.refl _ _).alloc (Nat.le_refl _) _
  have hx := heap_alloc_self w (.cells #[.int .u64 v, .string D] 28)
  have hz : (w.alloc (.cells #[.int .u64 v, .string D] 28)).heap.size = w.heap.size + 1 := by simp
  go_enter Tryd.func7, Tryd.ntmps7
  go_upto_region 1 with fail
  generalize w.alloc (.cells #[.int .u64 v, .string D] 28) = w1 at *
  have k1 : w1.cell? ⟨w.heap.size, 1, none⟩ = some (.string D) := by simp [World.cell?, hx]
  obtain ⟨N, hN⟩ : ∃ N, w1.heap.size = N := ⟨_, rfl⟩
  have HN := Lib.hid hN
  have HB := Lib.hid hb0
  have hlt : w.heap.size < N := by omega
  have cs : ∀ w', N ≤ w'.heap.size → Calls Tryd.prog 29 #[] w' fun x w'' => x = .returned (.string Z) ∧ Stays N w' w'' := fun w' h => (cz w').mono fun e w'' ⟨he, hw⟩ => ⟨he, stays_of h hw⟩
  clear hx hz hN hb0 cz hZ
  go_region_held3 (fun w' => N ≤ w'.heap.size ∧ Below N w1 w' ∧ ∀ b o, b < N → w'.cell? ⟨b, o, none⟩ = w1.cell? ⟨b, o, none⟩) (first | assumption | exact keeps_start HN.out | exact keeps_next (by assumption) (by assumption)) (first | (go_at_call 29; refine Calls.mono (cs _ (And.left (by assumption))) ?_; rintro e wz ⟨rfl, hz⟩))
  rename_i hfin
  have FIN := Lib.hid hfin.2.1
  clear hfin
  go_wp2_with fail
  go_ret
  exact ⟨rfl, HB.out.trans (FIN.out.mono (Nat.le_of_lt hlt))⟩
set_option maxRecDepth 100000 in
theorem rmay_zero (v : Int) (D : ByteArray) (w : World) (hs : D.size = 32) (hD : D = zeroL 32) : Calls Tryd.prog 7 #[.agg (itemA v D)] w fun e w' => e = .returned (.bool false) ∧ Below w.heap.size w w' := by
  unfold itemA
  have hn : D ≠ ⟨#[]⟩ := fun h => by rw [h] at hs; cases hs
  have h1 := ba_empty hn
  have h1' : (D.toList == []) = false := by rw [beq_eq_false_iff_ne]; exact h1
  have h1e : (D.toList == (⟨#[]⟩ : ByteArray).toList) = false := ba_ne hn
  have h2 : (D.toList == (zeroL 32).toList) = true := by rw [hD]; simp
  have cz := fun w => refzeros w
  rw [← hD] at h2 cz
  clear hD
  obtain ⟨Z, hZ⟩ : ∃ Z, D = Z := ⟨_, rfl⟩
  subst hZ
  have h4 : (D.size : Int) = 32 := by omega
  have h5 : ((D.size : Int) == 32) = true := by simp [hs]
  have hb0 : Below w.heap.size w (w.alloc (.cells #[.int .u64 v, .string D] 28)) := (Below.refl _ _).alloc (Nat.le_refl _) _
  have hx := heap_alloc_self w (.cells #[.int .u64 v, .string D] 28)
  have hz : (w.alloc (.cells #[.int .u64 v, .string D] 28)).heap.size = w.heap.size + 1 := by simp
  go_enter Tryd.func7, Tryd.ntmps7
  go_upto_region 1 with fail
  generalize w.alloc (.cells #[.int .u64 v, .string D] 28) = w1 at *
  have k1 : w1.cell? ⟨w.heap.size, 1, none⟩ = some (.string D) := by simp [World.cell?, hx]
  obtain ⟨N, hN⟩ : ∃ N, w1.heap.size = N := ⟨_, rfl⟩
  have HN := Lib.hid hN
  have HB := Lib.hid hb0
  have hlt : w.heap.size < N := by omega
  have cs : ∀ w', N ≤ w'.heap.size → Calls Tryd.prog 29 #[] w' fun x w'' => x = .returned (.string D) ∧ Stays N w' w'' := fun w' h => (cz w').mono fun e w'' ⟨he, hw⟩ => ⟨he, stays_of h hw⟩
  clear hx hz hN hb0 cz
  go_region_held3 (fun w' => N ≤ w'.heap.size ∧ Below N w1 w' ∧ ∀ b o, b < N → w'.cell? ⟨b, o, none⟩ = w1.cell? ⟨b, o, none⟩) (first | assumption | exact keeps_start HN.out | exact keeps_next (by assumption) (by assumption)) (first | (go_at_call 29; refine Calls.mono (cs _ (And.left (by assumption))) ?_; rintro e wz ⟨rfl, hz⟩))
  rename_i hfin
  have FIN := Lib.hid hfin.2.1
  clear hfin
  go_wp2_with fail
  go_ret
  exact ⟨rfl, HB.out.trans (FIN.out.mono (Nat.le_of_lt hlt))⟩
end Go.Proofs.YtkdmnhmlkcejfaaDoor
