/-
  Layer 40's waking call; what comes in.
-/
import Derived.Test.YtodjlaapmbnahaaSchE
namespace Go.Proofs.Ytodjlaapmbnahaa
open Go.RowKit Go.WideMaps
set_option linter.unusedVariables false
set_option linter.unusedSimpArgs false

abbrev u1' : US := ⟨true, ⟨#[97]⟩, 0, 1⟩
abbrev u2' : US := ⟨false, ⟨#[97]⟩, 2, 3⟩
theorem ord_two : Ord [u1', u2'] 0 ⟨#[]⟩ := by
  have g : ∀ {i : Nat} {u : US}, [u1', u2'][i]? = some u → (i = 0 ∧ u = u1') ∨ (i = 1 ∧ u = u2') := fun {i u} h => by
    match i, h with
    | 0, h => exact .inl ⟨rfl, (Option.some.inj h).symm⟩
    | 1, h => exact .inr ⟨rfl, (Option.some.inj h).symm⟩
    | n + 2, h => simp at h
  refine .step (i := 0) (u := u1') rfl (by decide) (fun i u hu hb => ?_) (fun q => by cases q) (.step (i := 1) (u := u2') rfl (by decide) (fun i u hu hb => ?_) (fun _ => rfl) (.over fun i u hu hb => ?_))
  · rcases g hu with ⟨rfl, rfl⟩ | ⟨rfl, rfl⟩ <;> decide
  · rcases g hu with ⟨rfl, rfl⟩ | ⟨rfl, rfl⟩
    · exact absurd hb (by decide)
    · decide
  · rcases g hu with ⟨rfl, rfl⟩ | ⟨rfl, rfl⟩
    · exact absurd hb (by decide)
    · exact absurd hb (by decide)
theorem ord_one : ¬ Ord [u2'] 0 ⟨#[]⟩ := by
  refine ord_not (fun h => h 0 u2' rfl (by decide) (by decide)) fun i u hu hb h1 h2 h3 => ?_
  match i, hu with
  | 0, hu =>
    obtain rfl := Option.some.inj hu
    have := h2 rfl
    exact absurd this (by decide)
  | n + 1, hu => simp at hu
theorem ord_none (v : ByteArray) : Ord [] 0 v := .over fun i u hu => by simp at hu
theorem br_true {p : Prop} {b : Bool} (h : b = true ↔ p) (hp : p) : b = true := h.2 hp
theorem br_false {p : Prop} {b : Bool} (h : b = true ↔ p) (hp : ¬ p) : b = false := by
  cases b
  · rfl
  · exact absurd (h.1 rfl) hp
set_option maxHeartbeats 1600000 in
theorem awake40 (w : World) : Calls Try.prog 13 #[] w fun e w' => e = .returned (.bool true) ∧ Below w.heap.size w w' := by
  have hx0 := heap_alloc_self w (.cells #[.bool true, .string ⟨#[97]⟩, .int .i64 0, .int .i64 1] 72)
  have hb0 := (Below.refl w.heap.size w).alloc (Nat.le_refl _) (.cells #[.bool true, .string ⟨#[97]⟩, .int .i64 0, .int .i64 1] 72)
  have hx1 := heap_alloc_self (w.alloc (.cells #[.bool true, .string ⟨#[97]⟩, .int .i64 0, .int .i64 1] 72)) (.cells #[.bool false, .string ⟨#[97]⟩, .int .i64 2, .int .i64 3] 72)
  have hb1 := hb0.alloc hb0.size (.cells #[.bool false, .string ⟨#[97]⟩, .int .i64 2, .int .i64 3] 72)
  rw [show (w.alloc (.cells #[.bool true, .string ⟨#[97]⟩, .int .i64 0, .int .i64 1] 72)).heap.size = w.heap.size + 1 by simp] at hx1
  have hx0' := (Below.heap_alloc _ (.cells #[.bool false, .string ⟨#[97]⟩, .int .i64 2, .int .i64 3] 72) _ (lt_heap hx0)).trans hx0
  clear hx0 hb0
  go_enter Try.func13, Try.ntmps13
  go_upto_region 3 with fail
  generalize (w.alloc (.cells #[.bool true, .string ⟨#[97]⟩, .int .i64 0, .int .i64 1] 72)).alloc (.cells #[.bool false, .string ⟨#[97]⟩, .int .i64 2, .int .i64 3] 72) = w1 at *
  obtain ⟨N, hN⟩ : ∃ N, w.heap.size = N := ⟨_, rfl⟩
  rw [hN] at hx0' hx1 hb1 ⊢
  have a0 := cellU hx0' 0 (v := .bool true) rfl
  have a1 := cellU hx0' 1 (v := .string ⟨#[97]⟩) rfl
  have a2 := cellU hx0' 2 (v := .int .i64 0) rfl
  have a3 := cellU hx0' 3 (v := .int .i64 1) rfl
  have b0 := cellU hx1 0 (v := .bool false) rfl
  have b1 := cellU hx1 1 (v := .string ⟨#[97]⟩) rfl
  have b2 := cellU hx1 2 (v := .int .i64 2) rfl
  have b3 := cellU hx1 3 (v := .int .i64 3) rfl
  have co := sorder [u1', u2'] (some ⟨w1.heap.size, 0, none⟩) 2 2 ⟨#[]⟩ (w1.alloc (.cells #[.bool true, .string ⟨#[97]⟩, .int .i64 0, .int .i64 1, .bool false, .string ⟨#[97]⟩, .int .i64 2, .int .i64 3] 72)) (SR.lit _ _ #[.bool true, .string ⟨#[97]⟩, .int .i64 0, .int .i64 1, .bool false, .string ⟨#[97]⟩, .int .i64 2, .int .i64 3] 4 2 (by decide) rfl) (by decide) (fun u hu => by
    rcases List.mem_cons.1 hu with rfl | hu
    · decide
    · rw [List.mem_singleton.1 hu]; decide) (by decide)
  have HB1 := Lib.hid (hb1.alloc (by have := hb1.size; omega) (.cells #[.bool true, .string ⟨#[97]⟩, .int .i64 0, .int .i64 1, .bool false, .string ⟨#[97]⟩, .int .i64 2, .int .i64 3] 72))
  have HX := Lib.hid ((Below.heap_alloc w1 (.cells #[.bool true, .string ⟨#[97]⟩, .int .i64 0, .int .i64 1, .bool false, .string ⟨#[97]⟩, .int .i64 2, .int .i64 3] 72) _ (lt_heap hx1)).trans hx1)
  clear hx0' hx1 hb1
  go_wp2_with fail
  refine Calls.mono co ?_
  rintro e w2 ⟨⟨b, rfl, hb⟩, hbl⟩
  obtain rfl := br_true hb ord_two
  have hx2 := below_at hbl (lt_heap HX.out) HX.out
  have hb2 := HB1.out.trans (hbl.mono (by have := HB1.out.size; omega))
  clear a0 a1 a2 a3 b0 b1 b2 b3 co hb hbl HX HB1
  generalize w1.alloc (.cells #[.bool true, .string ⟨#[97]⟩, .int .i64 0, .int .i64 1, .bool false, .string ⟨#[97]⟩, .int .i64 2, .int .i64 3] 72) = w1' at *
  have b0 := cellU hx2 0 (v := .bool false) rfl
  have b1 := cellU hx2 1 (v := .string ⟨#[97]⟩) rfl
  have b2 := cellU hx2 2 (v := .int .i64 2) rfl
  have b3 := cellU hx2 3 (v := .int .i64 3) rfl
  have co := sorder [u2'] (some ⟨w2.heap.size, 0, none⟩) 1 1 ⟨#[]⟩ (w2.alloc (.cells #[.bool false, .string ⟨#[97]⟩, .int .i64 2, .int .i64 3] 72)) (SR.lit _ _ #[.bool false, .string ⟨#[97]⟩, .int .i64 2, .int .i64 3] 4 1 (by decide) rfl) (by decide) (fun u hu => by rw [List.mem_singleton.1 hu]; decide) (by decide)
  have HB2 := Lib.hid (hb2.alloc (by have := hb2.size; omega) (.cells #[.bool false, .string ⟨#[97]⟩, .int .i64 2, .int .i64 3] 72))
  clear hx2 hb2
  go_wp2_with fail
  refine Calls.mono co ?_
  rintro e w3 ⟨⟨b, rfl, hb⟩, hbl⟩
  obtain rfl := br_false hb ord_one
  have HB3 := Lib.hid (HB2.out.trans (hbl.mono (by have := HB2.out.size; omega)))
  clear b0 b1 b2 b3 co hb hbl HB2
  have co := sorder [] none 0 0 ⟨#[120]⟩ w3 (SR.nil_ _ _) (by decide) (by simp) (by decide)
  go_wp2_with fail
  refine Calls.mono co ?_
  rintro e w4 ⟨⟨b, rfl, hb⟩, hbl⟩
  obtain rfl := br_true hb (ord_none _)
  have HB4 := Lib.hid (HB3.out.trans (hbl.mono (by have := HB3.out.size; omega)))
  clear co hb hbl HB3
  go_wp2_with fail
  go_ret
  exact ⟨rfl, by rw [hN]; exact HB4.out⟩
end Go.Proofs.Ytodjlaapmbnahaa
