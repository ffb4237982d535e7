/-
  Several texts, laid together.
-/
import Derived.Test.YtjaaddjbmimjoaaMh19
import Derived.Test.YtjaaddjbmimjoaaMh17
/-
  The reference's commands and entries as bytes: tarnref12.PutCmd, tarnref13.Put; the end of what is read: R.End.
-/


namespace Go.Proofs.Ytjaaddjbmimjoaa
open Go.RowKit
set_option linter.unusedVariables false
set_option linter.unusedSimpArgs false

set_option maxHeartbeats 3200000 in
set_option maxRecDepth 40000 in
theorem rpcmd (x : Int) (c : CF) (a1 a2 : Option Addr) (q1 q2 : Nat) (w : World) (h : CFat c w (.slice a1 c.M.length q1) (.slice a2 c.C.length q2)) (hm : mayK x c = true) :
    Calls Try.prog 9 #[.agg #[.int .i64 x, .int .i64 c.e, .int .i64 c.b, .int .i64 c.k, .slice a1 c.M.length q1, .slice a2 c.C.length q2]] w fun ev w' => ev = .returned (.string ⟨(putD x c).toArray⟩) ∧ Below w.heap.size w w' := by
  have hy := heap_alloc_self w (.cells #[.int .i64 x, .int .i64 c.e, .int .i64 c.b, .int .i64 c.k, .slice a1 c.M.length q1, .slice a2 c.C.length q2] 26)
  have hb : Below w.heap.size w (w.alloc (.cells #[.int .i64 x, .int .i64 c.e, .int .i64 c.b, .int .i64 c.k, .slice a1 c.M.length q1, .slice a2 c.C.length q2] 26)) := (Below.refl _ _).alloc (Nat.le_refl _) _
  obtain ⟨hx0, hx1, hl, -, hx2⟩ := mayK_in hm
  have hu : U64 x := ⟨by omega, by omega⟩
  have hw1 : IntKind.u64.wrap x = x := wrap_u64_in _ hu
  have he2 := hl.1.2 c.e (by simp)
  have l1 := putN_length x.toNat (by omega)
  have l2 := putN_length c.e.toNat (by omega)
  have l3 := putC_len hl
  have cp := fun w => refput_any x w hu
  have HC := Lib.hid (And.intro (h.below hb) hl)
  have HX := Lib.hid (And.intro hy hb)
  clear h
  by_cases h2 : x = 2
  · subst h2
    have hc1 := hx2 rfl
    have hu2 : U64 c.e := ⟨by omega, by omega⟩
    have hw2 : IntKind.u64.wrap c.e = c.e := wrap_u64_in _ hu2
    have cp2 := fun w => refput_any c.e w hu2
    have hpe : putD 2 c = putN (2 : Int).toNat ++ putN c.e.toNat := rfl
    obtain ⟨R, hR⟩ : ∃ R, putD 2 c = R := ⟨_, rfl⟩
    obtain ⟨P, hP⟩ : ∃ P, putN (2 : Int).toNat = P := ⟨_, rfl⟩
    obtain ⟨E, hE⟩ : ∃ E, putN c.e.toNat = E := ⟨_, rfl⟩
    rw [hR, hP, hE] at hpe
    rw [hR]
    rw [hP] at l1
    rw [hE] at l2
    simp only [hP] at cp
    simp only [hE] at cp2
    have HPE := Lib.hid hpe
    have hl3 : ¬ 9223372036854775807 < P.length + E.length := by omega
    have hl4 : P.length + E.length ≤ 9223372036854775807 := by omega
    have sa := str_append P E
    clear hR hP hE hpe hb hl hu hu2 hx2 hc1 hm l3
    go_enter Try.func9, Try.ntmps9
    go_upto_region 1 with fail
    generalize w.alloc (.cells #[.int .i64 2, .int .i64 c.e, .int .i64 c.b, .int .i64 c.k, .slice a1 c.M.length q1, .slice a2 c.C.length q2] 26) = w1 at *
    have d0 := cell_atD hy 0 (v := .int .i64 2) rfl
    have d1 := cell_atD hy 1 (v := .int .i64 c.e) rfl
    obtain ⟨N, hN⟩ : ∃ N, w1.heap.size = N := ⟨_, rfl⟩
    have hlt : w.heap.size < N := by have := lt_heap hy; omega
    have HN := Lib.hid hN
    have cs1 : ∀ w', N ≤ w'.heap.size → Calls Try.prog 50 #[.int .u64 2] w' fun e w'' => e = .returned (.string ⟨P.toArray⟩) ∧ Stays N w' w'' := fun w' h => (cp w').mono fun e w'' ⟨he, hw⟩ => ⟨he, stays_of h hw⟩
    have cs2 : ∀ w', N ≤ w'.heap.size ∧ Below N w1 w' → Calls Try.prog 50 #[.int .u64 c.e] w' fun e w'' => e = .returned (.string ⟨E.toArray⟩) ∧ Stays N w' w'' := fun w' h => (cp2 w').mono fun e w'' ⟨he, hw⟩ => ⟨he, stays_of h.1 hw⟩
    clear hy hN cp cp2
    go_upto_region 2 with fail
    go_region_held3 (fun w' => N ≤ w'.heap.size ∧ Below N w1 w' ∧ ∀ b o, b < N → w'.cell? ⟨b, o, none⟩ = w1.cell? ⟨b, o, none⟩) (first | assumption | exact keeps_start HN.out | exact keeps_next (by assumption) (by assumption)) (first | (go_at_call 50; ((with_reducible refine Calls.mono (cs1 _ (And.left (by assumption))) ?_)); rintro e wz ⟨rfl, hz⟩) | (go_at_call 50; ((with_reducible refine Calls.mono (cs2 _ ?hk) ?_)); (case hk => exact keepsV_two (by assumption)); rintro e wz ⟨rfl, hz⟩))
    rename_i hfin
    have FIN := Lib.hid (HX.out.2.trans (hfin.2.1.mono (by omega)))
    clear hfin
    go_wp2_with fail
    go_ret
    exact ⟨ret_str (by rw [HPE.out]), FIN.out⟩
  · have hpe : putD x c = putN x.toNat ++ putC c := by rw [putD, if_neg h2]
    have cd := fun w' (hb' : Below (w.alloc (.cells #[.int .i64 x, .int .i64 c.e, .int .i64 c.b, .int .i64 c.k, .slice a1 c.M.length q1, .slice a2 c.C.length q2] 26)).heap.size (w.alloc (.cells #[.int .i64 x, .int .i64 c.e, .int .i64 c.b, .int .i64 c.k, .slice a1 c.M.length q1, .slice a2 c.C.length q2] 26)) w') => rputC c a1 a2 q1 q2 w' (HC.out.1.below hb') HC.out.2.1 HC.out.2.2.1 HC.out.2.2.2
    obtain ⟨R, hR⟩ : ∃ R, putD x c = R := ⟨_, rfl⟩
    obtain ⟨P, hP⟩ : ∃ P, putN x.toNat = P := ⟨_, rfl⟩
    obtain ⟨E, hE⟩ : ∃ E, putC c = E := ⟨_, rfl⟩
    rw [hR, hP, hE] at hpe
    rw [hR]
    rw [hP] at l1
    rw [hE] at l3
    simp only [hP] at cp
    simp only [hE] at cd
    have HPE := Lib.hid hpe
    have hl3 : ¬ 9223372036854775807 < P.length + E.length := by omega
    have hl4 : P.length + E.length ≤ 9223372036854775807 := by omega
    have sa := str_append P E
    have u1 : (x == 2) = false := by simpa using h2
    clear hR hP hE hpe hb hl hu hx2 hm l2
    go_enter Try.func9, Try.ntmps9
    go_upto_region 1 with fail
    generalize w.alloc (.cells #[.int .i64 x, .int .i64 c.e, .int .i64 c.b, .int .i64 c.k, .slice a1 c.M.length q1, .slice a2 c.C.length q2] 26) = w1 at *
    have d0 := cell_atD hy 0 (v := .int .i64 x) rfl
    have d1 := cell_atD hy 1 (v := .int .i64 c.e) rfl
    have d2 := cell_atD hy 2 (v := .int .i64 c.b) rfl
    have d3 := cell_atD hy 3 (v := .int .i64 c.k) rfl
    have d4 := cell_atD hy 4 (v := .slice a1 c.M.length q1) rfl
    have d5 := cell_atD hy 5 (v := .slice a2 c.C.length q2) rfl
    obtain ⟨N, hN⟩ : ∃ N, w1.heap.size = N := ⟨_, rfl⟩
    have hlt : w.heap.size < N := by have := lt_heap hy; omega
    have HN := Lib.hid hN
    have cs1 : ∀ w', N ≤ w'.heap.size → Calls Try.prog 50 #[.int .u64 x] w' fun e w'' => e = .returned (.string ⟨P.toArray⟩) ∧ Stays N w' w'' := fun w' h => (cp w').mono fun e w'' ⟨he, hw⟩ => ⟨he, stays_of h hw⟩
    have cs2 : ∀ w', N ≤ w'.heap.size ∧ Below N w1 w' → Calls Try.prog 51 #[.agg #[.int .i64 c.e, .int .i64 c.b, .int .i64 c.k, .slice a1 c.M.length q1, .slice a2 c.C.length q2]] w' fun e w'' => e = .returned (.string ⟨E.toArray⟩) ∧ Stays N w' w'' := fun w' h => (cd w' (by rw [HN.out]; exact h.2)).mono fun e w'' ⟨he, hw⟩ => ⟨he, stays_of h.1 hw⟩
    clear hy hN cp cd HC
    go_upto_region 3 with fail
    go_region_held3 (fun w' => N ≤ w'.heap.size ∧ Below N w1 w' ∧ ∀ b o, b < N → w'.cell? ⟨b, o, none⟩ = w1.cell? ⟨b, o, none⟩) (first | assumption | exact keeps_start HN.out | exact keeps_next (by assumption) (by assumption)) (first | (go_at_call 50; ((with_reducible refine Calls.mono (cs1 _ (And.left (by assumption))) ?_)); rintro e wz ⟨rfl, hz⟩) | (go_at_call 51; ((with_reducible refine Calls.mono (cs2 _ ?hk) ?_)); (case hk => exact keepsV_two (by assumption)); rintro e wz ⟨rfl, hz⟩))
    rename_i hfin
    have FIN := Lib.hid (HX.out.2.trans (hfin.2.1.mono (by omega)))
    clear hfin
    go_wp2_with fail
    go_ret
    exact ⟨ret_str (by rw [HPE.out]), FIN.out⟩
end Go.Proofs.Ytjaaddjbmimjoaa
/-
  The reference's state as bytes: tarnref12.PutState.
-/

namespace Go.Proofs.Ytjaaddjbmimjoaa
open Go.RowKit
set_option linter.unusedVariables false
set_option linter.unusedSimpArgs false

theorem ints_two (w : World) (x y : Int) : Ints (w.alloc (.cells #[.int .i64 x, .int .i64 y] 3)) (.slice (some ⟨w.heap.size, 0, none⟩) 2 2) [x, y] := by
  have hx := heap_alloc_self w (.cells #[.int .i64 x, .int .i64 y] 3)
  refine ⟨_, 2, rfl, by simp, .inr ⟨w.heap.size, 0, rfl, lt_heap hx, fun j hj => ?_⟩⟩
  match j, hj with
  | 0, _ | 1, _ => simp only [World.cell?, hx]; rfl
theorem stays_alloc {N : Nat} {a v : World} {o : Obj} (h : Stays N a v) : N ≤ (v.alloc o).heap.size := Nat.le_trans h.1 (by simp)
theorem stays_le {N : Nat} {a v : World} (h : Stays N a v) : N ≤ v.heap.size := h.1
theorem bbd {a b : World} (h : Below a.drew.heap.size a.drew b) : Below a.heap.size a b := (below_drew' (Below.refl _ _)).trans h
theorem bb2 {a b c : World} (h : Below a.heap.size a b) (k : Below b.heap.size b c) : Below a.heap.size a c := h.trans (k.mono h.size)
/-- a state whose numbers and lists can be put -/
def LowS (s : DS) : Prop := (0 ≤ s.ep ∧ s.ep ≤ 1048576) ∧ LowC s.a ∧ LowC s.n ∧ s.s0 ≤ 9223372036854775807 ∧ s.s1 ≤ 9223372036854775807
/-- a state's bytes -/
def putS (s : DS) : List UInt8 := putN s.ep.toNat ++ putC s.a ++ putC s.n ++ listN [s.s0, s.s1]
theorem putS_len {s : DS} (h : LowS s) : (putS s).length ≤ 100000 := by
  obtain ⟨h0, h1, h2, h3, h4⟩ := h
  have l0 := putN_length s.ep.toNat (by omega)
  have l1 := putC_len h1
  have l2 := putC_len h2
  have l3 := listN_len (l := [s.s0, s.s1]) ⟨by simp, fun x hx => by simp at hx; omega⟩
  unfold putS
  simp only [List.length_append]
  omega
set_option maxHeartbeats 6400000 in
set_option maxRecDepth 40000 in
theorem rputS (s : DS) (a1 a2 a3 a4 : Option Addr) (q1 q2 q3 q4 : Nat) (w : World) (ha : CFat s.a w (.slice a1 s.a.M.length q1) (.slice a2 s.a.C.length q2)) (hn : CFat s.n w (.slice a3 s.n.M.length q3) (.slice a4 s.n.C.length q4)) (hs : LowS s) :
    Calls Try.prog 15 #[.agg #[.int .i64 s.ep, .int .i64 s.a.e, .int .i64 s.a.b, .int .i64 s.a.k, .slice a1 s.a.M.length q1, .slice a2 s.a.C.length q2, .int .i64 s.n.e, .int .i64 s.n.b, .int .i64 s.n.k, .slice a3 s.n.M.length q3, .slice a4 s.n.C.length q4, .int .i64 s.s0, .int .i64 s.s1]] w fun ev w' => ev = .returned (.string ⟨(putS s).toArray⟩) ∧ Below w.heap.size w w' := by
  have hx := heap_alloc_self w (.cells #[.int .i64 s.ep, .int .i64 s.a.e, .int .i64 s.a.b, .int .i64 s.a.k, .slice a1 s.a.M.length q1, .slice a2 s.a.C.length q2, .int .i64 s.n.e, .int .i64 s.n.b, .int .i64 s.n.k, .slice a3 s.n.M.length q3, .slice a4 s.n.C.length q4, .int .i64 s.s0, .int .i64 s.s1] 42)
  have hb : Below w.heap.size w (w.alloc (.cells #[.int .i64 s.ep, .int .i64 s.a.e, .int .i64 s.a.b, .int .i64 s.a.k, .slice a1 s.a.M.length q1, .slice a2 s.a.C.length q2, .int .i64 s.n.e, .int .i64 s.n.b, .int .i64 s.n.k, .slice a3 s.n.M.length q3, .slice a4 s.n.C.length q4, .int .i64 s.s0, .int .i64 s.s1] 42)) := (Below.refl _ _).alloc (Nat.le_refl _) _
  obtain ⟨h0, h1, h2, h3, h4⟩ := hs
  have hu : U64 s.ep := ⟨by omega, by omega⟩
  have hw1 : IntKind.u64.wrap s.ep = s.ep := wrap_u64_in _ hu
  have hsl : low63 [s.s0, s.s1] := ⟨by simp, fun x hx => by simp at hx; omega⟩
  have l0 := putN_length s.ep.toNat (by omega)
  have l1 := putC_len h1
  have l2 := putC_len h2
  have l3 := listN_len hsl
  go_enter Try.func15, Try.ntmps15
  go_upto_region 1 with fail
  generalize w.alloc (.cells #[.int .i64 s.ep, .int .i64 s.a.e, .int .i64 s.a.b, .int .i64 s.a.k, .slice a1 s.a.M.length q1, .slice a2 s.a.C.length q2, .int .i64 s.n.e, .int .i64 s.n.b, .int .i64 s.n.k, .slice a3 s.n.M.length q3, .slice a4 s.n.C.length q4, .int .i64 s.s0, .int .i64 s.s1] 42) = w1 at *
  have d0 := cell_atD hx 0 (v := .int .i64 s.ep) rfl
  have d1 := cell_atD hx 1 (v := .int .i64 s.a.e) rfl
  have d2 := cell_atD hx 2 (v := .int .i64 s.a.b) rfl
  have d3 := cell_atD hx 3 (v := .int .i64 s.a.k) rfl
  have d4 := cell_atD hx 4 (v := .slice a1 s.a.M.length q1) rfl
  have d5 := cell_atD hx 5 (v := .slice a2 s.a.C.length q2) rfl
  have d6 := cell_atD hx 6 (v := .int .i64 s.n.e) rfl
  have d7 := cell_atD hx 7 (v := .int .i64 s.n.b) rfl
  have d8 := cell_atD hx 8 (v := .int .i64 s.n.k) rfl
  have d9 := cell_atD hx 9 (v := .slice a3 s.n.M.length q3) rfl
  have d10 := cell_atD hx 10 (v := .slice a4 s.n.C.length q4) rfl
  have d11 := cell_atD hx 11 (v := .int .i64 s.s0) rfl
  have d12 := cell_atD hx 12 (v := .int .i64 s.s1) rfl
  obtain ⟨N, hN⟩ : ∃ N, w1.heap.size = N := ⟨_, rfl⟩
  have hNW : N ≤ w1.heap.size := by omega
  have hlt : w.heap.size < N := by have := lt_heap hx; omega
  have ha1 := CFat.below ha hb
  have hn1 := CFat.below hn hb
  have cP : ∀ w', N ≤ w'.heap.size ∧ Below N w1 w' → Calls Try.prog 50 #[.int .u64 s.ep] w' fun e w'' => e = .returned (.string ⟨(putN s.ep.toNat).toArray⟩) ∧ Stays N w' w'' ∧ Below w'.heap.size w' w'' := fun w' h' => (refput_any s.ep w' hu).mono fun e w'' ⟨he, hw⟩ => ⟨he, stays_of h'.1 hw, hw⟩
  have cA : ∀ w', N ≤ w'.heap.size ∧ Below N w1 w' → Calls Try.prog 51 #[.agg #[.int .i64 s.a.e, .int .i64 s.a.b, .int .i64 s.a.k, .slice a1 s.a.M.length q1, .slice a2 s.a.C.length q2]] w' fun e w'' => e = .returned (.string ⟨(putC s.a).toArray⟩) ∧ Stays N w' w'' ∧ Below w'.heap.size w' w'' := fun w' h' => (rputC s.a a1 a2 q1 q2 w' (ha1.below (by rw [hN]; exact h'.2)) h1.1 h1.2.1 h1.2.2).mono fun e w'' ⟨he, hw⟩ => ⟨he, stays_of h'.1 hw, hw⟩
  have cB : ∀ w', N ≤ w'.heap.size ∧ Below N w1 w' → Calls Try.prog 51 #[.agg #[.int .i64 s.n.e, .int .i64 s.n.b, .int .i64 s.n.k, .slice a3 s.n.M.length q3, .slice a4 s.n.C.length q4]] w' fun e w'' => e = .returned (.string ⟨(putC s.n).toArray⟩) ∧ Stays N w' w'' ∧ Below w'.heap.size w' w'' := fun w' h' => (rputC s.n a3 a4 q3 q4 w' (hn1.below (by rw [hN]; exact h'.2)) h2.1 h2.2.1 h2.2.2).mono fun e w'' ⟨he, hw⟩ => ⟨he, stays_of h'.1 hw, hw⟩
  have cH : ∀ (v w' : World), N ≤ w'.heap.size → Below (v.alloc (.cells #[.int .i64 s.s0, .int .i64 s.s1] 3)).heap.size (v.alloc (.cells #[.int .i64 s.s0, .int .i64 s.s1] 3)) w' → Calls Try.prog 59 #[.slice (some ⟨v.heap.size, 0, none⟩) 2 2] w' fun e w'' => e = .returned (.string ⟨(listN [s.s0, s.s1]).toArray⟩) ∧ Stays N w' w'' := fun v w' h' hb' => rputCL [s.s0, s.s1] hsl _ N _ h' ((ints_two v s.s0 s.s1).below hb')
  have hpc : putS s = putN s.ep.toNat ++ putC s.a ++ putC s.n ++ listN [s.s0, s.s1] := rfl
  have hl1 : ¬ (9223372036854775807 < (putN s.ep.toNat).length + (putC s.a).length) := by omega
  have hl2 : ¬ (9223372036854775807 < (putN s.ep.toNat).length + (putC s.a).length + (putC s.n).length) := by omega
  have hl3 : ¬ (9223372036854775807 < (putN s.ep.toNat).length + (putC s.a).length + (putC s.n).length + (listN [s.s0, s.s1]).length) := by omega
  generalize putN s.ep.toNat = PB at *
  generalize putC s.a = AB at *
  generalize putC s.n = NB at *
  generalize listN [s.s0, s.s1] = LB at *
  have HPC := Lib.hid hpc
  have HB := Lib.hid (And.intro hb hN)
  clear hpc hb hN hx ha hn ha1 hn1 h0 h1 h2 h3 h4 hu hsl l0 l1 l2 l3
  go_region_held3 (fun w' => N ≤ w'.heap.size ∧ Below N w1 w' ∧ ∀ b o, b < N → w'.cell? ⟨b, o, none⟩ = w1.cell? ⟨b, o, none⟩) (first | with_reducible exact keeps_allocD (by assumption) | with_reducible exact keeps_alloc (by assumption) | with_reducible exact keeps_next (by assumption) (by assumption) | exact keepsV_start hNW) (first | (go_at_call 50; (with_reducible refine Calls.mono (cP _ ?hk) ?_); (case hk => exact keepsV_two (by assumption)); rintro ev wz ⟨rfl, hzz, hbb⟩) | (go_at_call 51; (with_reducible refine Calls.mono (cA _ ?hk) ?_); (case hk => exact keepsV_two (by assumption)); rintro ev wz ⟨rfl, hzz, hbb⟩) | (go_at_call 51; (with_reducible refine Calls.mono (cB _ ?hk) ?_); (case hk => exact keepsV_two (by assumption)); rintro ev wz ⟨rfl, hzz, hbb⟩) | (go_at_call 59; first | ((with_reducible refine Calls.mono (cH _ _ ?hk (Below.refl _ _)) ?_); (case hk => first | exact stays_alloc (by assumption)); rintro ev wz ⟨rfl, hzz⟩) | ((with_reducible refine Calls.mono (cH _ _ ?hk ?hb) ?_); (case hb => first | assumption | exact bbd (by assumption) | exact bb2 (by assumption) (by assumption) | exact bb2 (bbd (by assumption)) (by assumption) | exact bb2 (bb2 (by assumption) (by assumption)) (by assumption) | exact bb2 (bb2 (bbd (by assumption)) (by assumption)) (by assumption)); (case hk => exact stays_le (by assumption)); rintro ev wz ⟨rfl, hzz⟩)))
  all_goals
    rename_i hfin
    have HF := Lib.hid ((HB.out.1).trans (hfin.2.1.mono (by have := HB.out.1.size; have := HB.out.2; omega)))
    clear hfin
    go_wp2_with fail
    go_ret
    exact ⟨ret_str (by rw [HPC.out, ← str_append, ← str_append, ← str_append]), HF.out⟩
end Go.Proofs.Ytjaaddjbmimjoaa
