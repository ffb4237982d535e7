/-
  ItemPuts (layer 8).
-/
import Derived.Test.YtoonlhjldkkanaaIputD
namespace Go.Proofs.Ytoonlhjldkkanaa
open Go.RowKit
set_option linter.unusedVariables false
set_option linter.unusedSimpArgs false

theorem fits_item {w : World} {c : Array Value} (h : Fits w (.two (.int .u64) (.two .str .unit)) c.toList) : ∃ v s, c = itemA v s ∧ (Lit.int .u64 v).wf = true ∧ s.size ≤ maxLen := by
  obtain ⟨x0, y0, e0, ⟨v, rfl, hv⟩, x1, y1, rfl, ⟨s, rfl, hs⟩, rfl⟩ := h
  refine ⟨v, s, ?_, hv, hs⟩
  apply Array.toList_inj.1
  rw [e0]; rfl
theorem putN_some (n : Nat) : putN n ≠ [] := by intro h; simp [putN] at h
/-- what becomes of an item that is put and taken -/
structure Back (v : Int) (l : List UInt8) (S : ByteArray) (zv : Int) (zD : ByteArray) (r2 : RS) (m : Bool) : Prop where
  put : ∀ w, Calls Try.prog 16 #[.agg (itemA v ⟨l.toArray⟩)] w fun e w' => e = .returned (.string S) ∧ Below w.heap.size w w'
  ref : ∀ w, Calls Try.prog 20 #[.agg (itemA v ⟨l.toArray⟩)] w fun e w' => e = .returned (.string S) ∧ Below w.heap.size w w'
  may : MayT m v ⟨l.toArray⟩
  take : ∀ b w, w.heap[b]? = some (.cells #[.string S, .int .i64 0] 96 (0, 0)) → Calls Try.prog 18 #[.pointer (some ⟨b, 0, none⟩)] w fun e w' => e = .returned (.agg (itemA zv zD)) ∧ Src w' b r2 ∧ Only b w w'
  way : S = ⟨#[]⟩ ∧ zv = 0 ∧ zD = ⟨#[]⟩ ∨ S ≠ ⟨#[]⟩ ∧ zv = v ∧ zD = ⟨l.toArray⟩ ∧ r2 = ⟨[], 0⟩
theorem back_any (v : Int) (l : List UInt8) (hv : U64 v) : ∃ S zv zD r2 m, Back v l S zv zD r2 m := by
  obtain ⟨m, hm, h0, h1⟩ := may_cases v ⟨l.toArray⟩
  cases m
  · refine ⟨⟨#[]⟩, 0, ⟨#[]⟩, ⟨[], 2⟩, false, fun w => iput_no v _ w hm, fun w => rput_no v _ w hm, hm, fun b w hs => ?_, .inl ⟨rfl, rfl, rfl⟩⟩
    have hr := itake_any b ⟨[], 0⟩ ⟨[], 2⟩ 0 [] w (by first | rfl | kernel_rfl) (by first | rfl | kernel_rfl) (by first | rfl | kernel_rfl) ⟨imay_none 0, rmay_none 0⟩ hs
    exact hr
  · have hl : l.length ≤ 32 := h1 rfl
    obtain ⟨n1, n2⟩ := num_put v.toNat (by unfold U64 at hv; omega) (putN l.length ++ l) 18446744073709551615 (by unfold U64 at hv; omega)
    obtain ⟨t1, t2⟩ := text_put l [] 32 (by omega) (by omega)
    rw [List.append_nil] at t1 t2
    refine ⟨⟨(putI v l).toArray⟩, v, ⟨l.toArray⟩, ⟨[], 0⟩, true, fun w => iput_yes v l w hv hl hm, fun w => rput_yes v l w hv hl hm, hm, fun b w hs => ?_, .inr ⟨?_, rfl, rfl, rfl⟩⟩
    · have hr := itake_any b ⟨putI v l, 0⟩ ⟨[], 0⟩ v l w (by unfold putI; rw [n1]; unfold U64 at hv; omega) (by unfold putI; rw [n2]; exact t1) (by unfold putI; rw [n2]; exact t2) hm hs
      exact hr
    · intro h
      have h2 : putI v l = [] := by
        have := congrArg (fun b : ByteArray => b.data.toList) h
        simpa using this
      unfold putI at h2
      exact putN_some _ (List.append_eq_nil_iff.1 h2).1
set_option maxHeartbeats 6400000 in
set_option maxRecDepth 100000 in
theorem itemputs_law (c : Array Value) (odd : Int) (w : World) (hc : Fits w (.two (.int .u64) (.two .str .unit)) c.toList) (ho : (Lit.int .i64 odd).wf = true) :
    Calls Try.prog 3 #[.agg c, .int .i64 odd] w fun e w' => e = .returned (.bool true) ∧ Below w.heap.size w w' := by
  obtain ⟨v, s, rfl, hv, hs⟩ := fits_item hc
  have hu := wf_u64 hv
  have hn := fun w => near08 v s odd w hs
  have hb0 : Below w.heap.size w (w.alloc (.cells #[.int .u64 v, .string s] 24)) := (Below.refl _ _).alloc (Nat.le_refl _) _
  clear hc ho hs
  have hitem : ∀ (x : Int) (D : ByteArray), itemA x D = #[.int .u64 x, .string D] := fun _ _ => rfl
  simp only [hitem] at hn ⊢
  go_enter Try.func3, Try.ntmps3
  go_wp2_with fail
  refine Calls.mono (hn _) ?_
  rintro e w1 ⟨l, hl, rfl, hb1⟩
  obtain ⟨S, zv, zD, r2, m, hB⟩ := back_any v l hu
  obtain ⟨cput, cref, ⟨cmay, crmay⟩, ctake, hway⟩ := hB
  have hsame := fun w => item_same v ⟨l.toArray⟩ w hv (by show l.length ≤ _; unfold maxLen; omega)
  simp only [hitem] at cput cref cmay crmay ctake
  obtain ⟨D, hD⟩ : ∃ D : ByteArray, ⟨l.toArray⟩ = D := ⟨_, rfl⟩
  rw [hD] at cput cref cmay crmay hway hsame ⊢
  clear hD hl hn hu
  have hbA := hb0.trans (hb1.mono hb0.size)
  have hx := heap_alloc_self w1 (.cells #[.int .u64 v, .string D] 24)
  have hbB : Below w.heap.size w (w1.alloc (.cells #[.int .u64 v, .string D] 24)) := hbA.alloc hbA.size _
  have hle := hbA.size
  go_upto_region 2 with fail
  generalize w1.alloc (.cells #[.int .u64 v, .string D] 24) = w2 at *
  obtain ⟨X, hX⟩ : ∃ X, w1.heap.size = X := ⟨_, rfl⟩
  rw [hX] at hx hle
  try rw [hX]
  have y0 : w2.cell? ⟨X, 0, none⟩ = some (.int .u64 v) := by simp [World.cell?, hx]
  have y1 : w2.cell? ⟨X, 1, none⟩ = some (.string D) := by simp [World.cell?, hx]
  have HX := Lib.hid hx
  have HB := Lib.hid hbB
  clear hx hbB hbA hb0 hb1 hX
  go_wp2_with fail
  refine Calls.mono (cput _) ?_
  rintro e w3 ⟨rfl, hb3⟩
  have hx3 := below_at hb3 (lt_heap HX.out) HX.out
  have HB3 := Lib.hid (HB.out.trans (hb3.mono HB.out.size))
  clear y0 y1 hb3 cput
  go_wp2_with fail
  refine (from_any S _).mono ?_
  rintro e w4 ⟨rfl, h4⟩
  have hs4 := heap_alloc_self w3 (.cells #[.string S, .int .i64 0] 96)
  rw [← h4] at hs4
  have hx4 : w4.heap[X]? = some (.cells #[.int .u64 v, .string D] 24) := by rw [h4]; exact (Below.heap_alloc _ _ _ (lt_heap hx3)).trans hx3
  have hb4 : Below w.heap.size w w4 := by rw [h4]; exact HB3.out.alloc HB3.out.size _
  have hsz := HB3.out.size
  have hXs : X < w3.heap.size := lt_heap hx3
  obtain ⟨Q, hQ⟩ : ∃ Q, w3.heap.size = Q := ⟨_, rfl⟩
  rw [hQ] at hs4 hsz hXs
  try rw [hQ]
  have HS4 := Lib.hid hs4
  have HX4 := Lib.hid hx4
  have HB4 := Lib.hid hb4
  clear hs4 hx4 hb4 h4 hx3
  go_wp2_with fail
  refine (ctake Q _ HS4.out).mono ?_
  rintro e w5 ⟨rfl, hs5, ho5⟩
  have hx5 : w5.heap[X]? = _ := (ho5.block X (lt_heap HX4.out) (by omega)).trans HX4.out
  have hb5 := HB4.out.trans (ho5.below hsz HB4.out.size)
  have hq5 : Q < w5.heap.size := hs5.lt
  have hz := heap_alloc_self w5 (.cells #[.int .u64 zv, .string zD] 24)
  have hx6 : (w5.alloc (.cells #[.int .u64 zv, .string zD] 24)).heap[X]? = _ := (Below.heap_alloc _ _ _ (lt_heap hx5)).trans hx5
  have hs6 : Src (w5.alloc (.cells #[.int .u64 zv, .string zD] 24)) Q r2 := (Below.heap_alloc _ _ _ hq5).trans hs5
  have hb6 : Below w.heap.size w (w5.alloc (.cells #[.int .u64 zv, .string zD] 24)) := hb5.alloc hb5.size _
  clear hx5 hs5 ho5 hb5 ctake
  go_upto_region 5 with fail
  generalize w5.alloc (.cells #[.int .u64 zv, .string zD] 24) = w6 at *
  obtain ⟨Z, hZ⟩ : ∃ Z, w5.heap.size = Z := ⟨_, rfl⟩
  rw [hZ] at hz hq5
  try rw [hZ]
  obtain ⟨N, hN⟩ : ∃ N, w6.heap.size = N := ⟨_, rfl⟩
  have HN := Lib.hid hN
  have kX : X < N := by rw [← hN]; exact lt_heap hx6
  have kZ : Z < N := by rw [← hN]; exact lt_heap hz
  have kQ : Q < N := by rw [← hN]; exact hs6.lt
  have y0 : w6.cell? ⟨X, 0, none⟩ = some (.int .u64 v) := by simp [World.cell?, hx6]
  have y1 : w6.cell? ⟨X, 1, none⟩ = some (.string D) := by simp [World.cell?, hx6]
  have HX6 := Lib.hid hx6
  have HS6 := Lib.hid hs6
  have HZ6 := Lib.hid hz
  have HB6 := Lib.hid hb6
  have HW := Lib.hid hway
  have HSame := Lib.hid hsame
  clear hx6 hs6 hz hb6 hway hsame hZ hN
  have c1 : ∀ w', N ≤ w'.heap.size → Calls Try.prog 19 #[] w' fun x w'' => x = .returned (.bool true) ∧ Stays N w' w'' := fun w' h => (awake08 w').mono fun e w'' ⟨he, hw⟩ => ⟨he, stays_of h hw⟩
  have c2 : ∀ w', N ≤ w'.heap.size → Calls Try.prog 20 #[.agg #[.int .u64 v, .string D]] w' fun x w'' => x = .returned (.string S) ∧ Stays N w' w'' := fun w' h => (cref w').mono fun e w'' ⟨he, hw⟩ => ⟨he, stays_of h hw⟩
  have c3 : ∀ w', N ≤ w'.heap.size → Calls Try.prog 21 #[.agg #[.int .u64 v, .string D]] w' fun x w'' => x = .returned (.bool m) ∧ Stays N w' w'' := fun w' h => (cmay w').mono fun e w'' ⟨he, hw⟩ => ⟨he, stays_of h hw⟩
  have c4 : ∀ w', N ≤ w'.heap.size → Calls Try.prog 22 #[.agg #[.int .u64 v, .string D]] w' fun x w'' => x = .returned (.bool m) ∧ Stays N w' w'' := fun w' h => (crmay w').mono fun e w'' ⟨he, hw⟩ => ⟨he, stays_of h hw⟩
  clear cref cmay crmay
  go_region_held3 (fun w' => N ≤ w'.heap.size ∧ Below N w6 w' ∧ ∀ b o, b < N → w'.cell? ⟨b, o, none⟩ = w6.cell? ⟨b, o, none⟩) (first | assumption | exact keeps_start HN.out | exact keeps_next (by assumption) (by assumption)) (first | (go_at_call 19; refine Calls.mono (c1 _ (And.left (by assumption))) ?_; rintro e wz ⟨rfl, hz⟩) | (go_at_call 20; refine Calls.mono (c2 _ (And.left (by assumption))) ?_; rintro e wz ⟨rfl, hz⟩) | (go_at_call 21; refine Calls.mono (c3 _ (And.left (by assumption))) ?_; rintro e wz ⟨rfl, hz⟩) | (go_at_call 22; refine Calls.mono (c4 _ (And.left (by assumption))) ?_; rintro e wz ⟨rfl, hz⟩))
  rename_i hfin
  obtain ⟨-, hbF, -⟩ := hfin
  clear hz
  have hsF := HS6.out.below (hbF.mono (Nat.le_of_eq HN.out))
  have hxF := below_at (hbF.mono (Nat.le_of_eq HN.out)) (lt_heap HX6.out) HX6.out
  have hzF := below_at (hbF.mono (Nat.le_of_eq HN.out)) (lt_heap HZ6.out) HZ6.out
  have HB7 := Lib.hid (HB6.out.trans (hbF.mono (by omega)))
  clear y0 y1 hbF c1 c2 c3 c4
  have hg := itemguard
  rcases HW.out with ⟨rfl, rfl, rfl⟩ | ⟨hne, rfl, rfl, rfl⟩
  · have z0 : wz.cell? ⟨Z, 0, none⟩ = some (.int .u64 0) := by simp [World.cell?, hzF]
    have z1 : wz.cell? ⟨Z, 1, none⟩ = some (.string ⟨#[]⟩) := by simp [World.cell?, hzF]
    have he := fun w => item_same 0 ⟨#[]⟩ w (by decide) (by decide)
    clear hsF hxF hzF
    go_wp2_with fail
    go_ret
    exact ⟨rfl, HB7.out⟩
  · have z0 : wz.cell? ⟨Z, 0, none⟩ = some (.int .u64 zv) := by simp [World.cell?, hzF]
    have z1 : wz.cell? ⟨Z, 1, none⟩ = some (.string zD) := by simp [World.cell?, hzF]
    have h1 := ba_empty hne
    have h1' : (S.toList == []) = false := by rw [beq_eq_false_iff_ne]; exact h1
    have h1e : (S.toList == (⟨#[]⟩ : ByteArray).toList) = false := ba_ne hne
    have HSF := Lib.hid hsF
    have HXF := Lib.hid hxF
    have HZF := Lib.hid hzF
    clear hsF hxF hzF hne
    go_wp2_with fail
    refine (end_src Q _ _ HSF.out).mono ?_
    rintro e w8 ⟨rfl, hs8, ho8⟩
    have hx8 : w8.heap[X]? = _ := (ho8.block X (lt_heap HXF.out) (by omega)).trans HXF.out
    have hz8 : w8.heap[Z]? = _ := (ho8.block Z (lt_heap HZF.out) (by omega)).trans HZF.out
    have FB := Lib.hid (HB7.out.trans (ho8.below hsz HB7.out.size))
    have y0 : w8.cell? ⟨X, 0, none⟩ = some (.int .u64 zv) := by simp [World.cell?, hx8]
    have y1 : w8.cell? ⟨X, 1, none⟩ = some (.string zD) := by simp [World.cell?, hx8]
    clear z0 z1
    have z0 : w8.cell? ⟨Z, 0, none⟩ = some (.int .u64 zv) := by simp [World.cell?, hz8]
    have z1 : w8.cell? ⟨Z, 1, none⟩ = some (.string zD) := by simp [World.cell?, hz8]
    have he := HSame.out
    have hend : (RS.endS ⟨[], 0⟩).e = 0 := rfl
    rw [hend]
    clear hs8 ho8 hx8 hz8
    go_wp2_with fail
    go_ret
    exact ⟨rfl, FB.out⟩
end Go.Proofs.Ytoonlhjldkkanaa
