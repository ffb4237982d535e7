/-
  Items there and back: what is put (layer 8).
-/
import Derived.Test.YtoonlhjldkkanaaIput
namespace Go.Proofs.Ytoonlhjldkkanaa
open Go.RowKit
set_option linter.unusedVariables false
set_option linter.unusedSimpArgs false

def MayT (b : Bool) (v : Int) (D : ByteArray) : Prop := (∀ w, Calls Try.prog 21 #[.agg (itemA v D)] w fun e w' => e = .returned (.bool b) ∧ Below w.heap.size w w') ∧ ∀ w, Calls Try.prog 22 #[.agg (itemA v D)] w fun e w' => e = .returned (.bool b) ∧ Below w.heap.size w w'
theorem may_cases (v : Int) (D : ByteArray) : ∃ b, MayT b v D ∧ (b = false → D ≠ ⟨#[]⟩) ∧ (b = true → D.size ≤ 32) := by
  by_cases h : D = ⟨#[]⟩
  · subst h
    exact ⟨true, ⟨imay_none v, rmay_none v⟩, by simp, fun _ => by decide⟩
  · by_cases h2 : D.size = 32
    · by_cases h3 : D = zeroL 32
      · exact ⟨false, ⟨fun w => imay_zero v D w h2 h3, fun w => rmay_zero v D w h2 h3⟩, fun _ => h, by simp⟩
      · exact ⟨true, ⟨fun w => imay_some v D w h2 h3, fun w => rmay_some v D w h2 h3⟩, by simp, fun _ => by omega⟩
    · exact ⟨false, ⟨fun w => imay_bad v D w h h2, fun w => rmay_bad v D w h h2⟩, fun _ => h, by simp⟩
theorem iput_no (v : Int) (D : ByteArray) (w : World) (h : MayT false v D) : Calls Try.prog 16 #[.agg (itemA v D)] w fun e w' => e = .returned (.string ⟨#[]⟩) ∧ Below w.heap.size w w' := by
  have cm := h.1
  clear h
  unfold itemA at *
  have hb0 : Below w.heap.size w (w.alloc (.cells #[.int .u64 v, .string D] 24)) := (Below.refl _ _).alloc (Nat.le_refl _) _
  go_enter Try.func16, Try.ntmps16
  go_wp2_with fail
  refine Calls.mono (cm _) ?_
  rintro e w2 ⟨rfl, hb⟩
  have FB := Lib.hid (hb0.trans (hb.mono hb0.size))
  clear hb hb0 cm
  go_wp2_with fail
  go_ret
  exact ⟨rfl, FB.out⟩
theorem rput_no (v : Int) (D : ByteArray) (w : World) (h : MayT false v D) : Calls Try.prog 20 #[.agg (itemA v D)] w fun e w' => e = .returned (.string ⟨#[]⟩) ∧ Below w.heap.size w w' := by
  have cm := h.2
  clear h
  unfold itemA at *
  have hb0 : Below w.heap.size w (w.alloc (.cells #[.int .u64 v, .string D] 24)) := (Below.refl _ _).alloc (Nat.le_refl _) _
  go_enter Try.func20, Try.ntmps20
  go_wp2_with fail
  refine Calls.mono (cm _) ?_
  rintro e w2 ⟨rfl, hb⟩
  have FB := Lib.hid (hb0.trans (hb.mono hb0.size))
  clear hb hb0 cm
  go_wp2_with fail
  go_ret
  exact ⟨rfl, FB.out⟩
def putI (v : Int) (l : List UInt8) : List UInt8 := putN v.toNat ++ (putN l.length ++ l)
set_option maxRecDepth 100000 in
theorem iput_yes (v : Int) (l : List UInt8) (w : World) (hv : U64 v) (hl : l.length ≤ 32) (h : MayT true v ⟨l.toArray⟩) : Calls Try.prog 16 #[.agg (itemA v ⟨l.toArray⟩)] w fun e w' => e = .returned (.string ⟨(putI v l).toArray⟩) ∧ Below w.heap.size w w' := by
  have cm := h.1
  have cp := fun w => put_any v w hv
  have ct := fun w => text_any l w (by omega)
  have hb0 : Below w.heap.size w (w.alloc (.cells #[.int .u64 v, .string ⟨l.toArray⟩] 24)) := (Below.refl _ _).alloc (Nat.le_refl _) _
  have hx := heap_alloc_self w (.cells #[.int .u64 v, .string ⟨l.toArray⟩] 24)
  have hlen : (putN v.toNat).length ≤ 9 := putN_length _ (by unfold U64 at hv; omega)
  have hlen2 : (putN l.length ++ l).length ≤ 41 := by
    have := putN_length l.length (by omega)
    rw [List.length_append]; omega
  clear h hv
  unfold putI itemA at *
  obtain ⟨P, hP⟩ : ∃ P, putN v.toNat = P := ⟨_, rfl⟩
  obtain ⟨T, hT⟩ : ∃ T, putN l.length ++ l = T := ⟨_, rfl⟩
  obtain ⟨D, hD⟩ : ∃ D : ByteArray, ⟨l.toArray⟩ = D := ⟨_, rfl⟩
  simp only [hP, hT, hD] at cm cp ct hb0 hx hlen hlen2 ⊢
  clear hP hT hD
  go_enter Try.func16, Try.ntmps16
  go_wp2_with fail
  refine Calls.mono (cm _) ?_
  rintro e w1 ⟨rfl, hb⟩
  have y := below_at hb (lt_heap hx) hx
  have hb1 := hb0.trans (hb.mono hb0.size)
  obtain ⟨N, hN⟩ : ∃ N, w1.heap.size = N := ⟨_, rfl⟩
  have hlt : w.heap.size < N := by have := lt_heap y; omega
  have k0 : w1.cell? ⟨w.heap.size, 0, none⟩ = some (.int .u64 v) := by simp [World.cell?, y]
  have k1 : w1.cell? ⟨w.heap.size, 1, none⟩ = some (.string D) := by simp [World.cell?, y]
  have HN := Lib.hid hN
  have HB := Lib.hid hb1
  have cs1 : ∀ w', N ≤ w'.heap.size → Calls Try.prog 64 #[.int .u64 v] w' fun x w'' => x = .returned (.string ⟨P.toArray⟩) ∧ Stays N w' w'' := fun w' h => (cp w').mono fun e w'' ⟨he, hw⟩ => ⟨he, stays_of h hw⟩
  have cs2 : ∀ w', N ≤ w'.heap.size → Calls Try.prog 65 #[.string D] w' fun x w'' => x = .returned (.string ⟨T.toArray⟩) ∧ Stays N w' w'' := fun w' h => (ct w').mono fun e w'' ⟨he, hw⟩ => ⟨he, stays_of h hw⟩
  have hsa := str_append P T
  have hl2 : P.length + T.length ≤ 9223372036854775807 := by omega
  have hl3 : ¬ 9223372036854775807 < P.length + T.length := by omega
  clear hb hb0 hb1 hx y cm cp ct hN
  go_upto_region 3 with fail
  go_region_held3 (fun w' => N ≤ w'.heap.size ∧ Below N w1 w' ∧ ∀ b o, b < N → w'.cell? ⟨b, o, none⟩ = w1.cell? ⟨b, o, none⟩) (first | assumption | exact keeps_start HN.out | exact keeps_next (by assumption) (by assumption)) (first | (go_at_call 64; refine Calls.mono (cs1 _ (And.left (by assumption))) ?_; rintro e wz ⟨rfl, hz⟩) | (go_at_call 65; refine Calls.mono (cs2 _ (And.left (by assumption))) ?_; rintro e wz ⟨rfl, hz⟩))
  rename_i hfin
  have FIN := Lib.hid hfin.2.1
  clear hfin
  go_wp2_with fail
  go_ret
  exact ⟨ret_str (str_append _ _), HB.out.trans (FIN.out.mono (Nat.le_of_lt hlt))⟩
set_option maxRecDepth 100000 in
theorem rput_yes (v : Int) (l : List UInt8) (w : World) (hv : U64 v) (hl : l.length ≤ 32) (h : MayT true v ⟨l.toArray⟩) : Calls Try.prog 20 #[.agg (itemA v ⟨l.toArray⟩)] w fun e w' => e = .returned (.string ⟨(putI v l).toArray⟩) ∧ Below w.heap.size w w' := by
  have cm := h.2
  have cp := fun w => refput_any v w hv
  have ct := fun w => reftext_any l w (by omega)
  have hb0 : Below w.heap.size w (w.alloc (.cells #[.int .u64 v, .string ⟨l.toArray⟩] 24)) := (Below.refl _ _).alloc (Nat.le_refl _) _
  have hx := heap_alloc_self w (.cells #[.int .u64 v, .string ⟨l.toArray⟩] 24)
  have hlen : (putN v.toNat).length ≤ 9 := putN_length _ (by unfold U64 at hv; omega)
  have hlen2 : (putN l.length ++ l).length ≤ 41 := by
    have := putN_length l.length (by omega)
    rw [List.length_append]; omega
  clear h hv
  unfold putI itemA at *
  obtain ⟨P, hP⟩ : ∃ P, putN v.toNat = P := ⟨_, rfl⟩
  obtain ⟨T, hT⟩ : ∃ T, putN l.length ++ l = T := ⟨_, rfl⟩
  obtain ⟨D, hD⟩ : ∃ D : ByteArray, ⟨l.toArray⟩ = D := ⟨_, rfl⟩
  simp only [hP, hT, hD] at cm cp ct hb0 hx hlen hlen2 ⊢
  clear hP hT hD
  go_enter Try.func20, Try.ntmps20
  go_wp2_with fail
  refine Calls.mono (cm _) ?_
  rintro e w1 ⟨rfl, hb⟩
  have y := below_at hb (lt_heap hx) hx
  have hb1 := hb0.trans (hb.mono hb0.size)
  obtain ⟨N, hN⟩ : ∃ N, w1.heap.size = N := ⟨_, rfl⟩
  have hlt : w.heap.size < N := by have := lt_heap y; omega
  have k0 : w1.cell? ⟨w.heap.size, 0, none⟩ = some (.int .u64 v) := by simp [World.cell?, y]
  have k1 : w1.cell? ⟨w.heap.size, 1, none⟩ = some (.string D) := by simp [World.cell?, y]
  have HN := Lib.hid hN
  have HB := Lib.hid hb1
  have cs1 : ∀ w', N ≤ w'.heap.size → Calls Try.prog 72 #[.int .u64 v] w' fun x w'' => x = .returned (.string ⟨P.toArray⟩) ∧ Stays N w' w'' := fun w' h => (cp w').mono fun e w'' ⟨he, hw⟩ => ⟨he, stays_of h hw⟩
  have cs2 : ∀ w', N ≤ w'.heap.size → Calls Try.prog 73 #[.string D] w' fun x w'' => x = .returned (.string ⟨T.toArray⟩) ∧ Stays N w' w'' := fun w' h => (ct w').mono fun e w'' ⟨he, hw⟩ => ⟨he, stays_of h hw⟩
  have hsa := str_append P T
  have hl2 : P.length + T.length ≤ 9223372036854775807 := by omega
  have hl3 : ¬ 9223372036854775807 < P.length + T.length := by omega
  clear hb hb0 hb1 hx y cm cp ct hN
  go_upto_region 3 with fail
  go_region_held3 (fun w' => N ≤ w'.heap.size ∧ Below N w1 w' ∧ ∀ b o, b < N → w'.cell? ⟨b, o, none⟩ = w1.cell? ⟨b, o, none⟩) (first | assumption | exact keeps_start HN.out | exact keeps_next (by assumption) (by assumption)) (first | (go_at_call 72; refine Calls.mono (cs1 _ (And.left (by assumption))) ?_; rintro e wz ⟨rfl, hz⟩) | (go_at_call 73; refine Calls.mono (cs2 _ (And.left (by assumption))) ?_; rintro e wz ⟨rfl, hz⟩))
  rename_i hfin
  have FIN := Lib.hid hfin.2.1
  clear hfin
  go_wp2_with fail
  go_ret
  exact ⟨ret_str (str_append _ _), HB.out.trans (FIN.out.mono (Nat.le_of_lt hlt))⟩
end Go.Proofs.Ytoonlhjldkkanaa
