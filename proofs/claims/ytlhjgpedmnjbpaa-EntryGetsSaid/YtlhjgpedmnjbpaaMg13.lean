/-
  Several texts, laid together.
-/
import Derived.Test.YtlhjgpedmnjbpaaMg12
import Derived.Test.YtlhjgpedmnjbpaaMg10
import Derived.Deep.RegionLaw
import Derived.BigRegion
/-
  An entry as bytes, and out of bytes: entry.Put, entry.Get; layer 13's waking call.
-/

namespace Go.Proofs.Ytlhjgpedmnjbpaa
open Go.RowKit
set_option linter.unusedVariables false
set_option linter.unusedSimpArgs false

set_option maxHeartbeats 3200000 in
set_option maxRecDepth 40000 in
theorem eput (t x : Int) (c : CF) (a2 a3 : Option Addr) (p2 p3 : Nat) (w : World) (h : CFat c w (.slice a2 c.M.length p2) (.slice a3 c.C.length p3)) (hm : mayE t x c = true) :
    Calls Try.prog 95 #[.agg #[.int .i64 t, .int .i64 x, .int .i64 c.e, .int .i64 c.b, .int .i64 c.k, .slice a2 c.M.length p2, .slice a3 c.C.length p3]] w fun ev w' => ev = .returned (.string ⟨(putE t x c).toArray⟩) ∧ Below w.heap.size w w' := by
  have hy := heap_alloc_self w (.cells #[.int .i64 t, .int .i64 x, .int .i64 c.e, .int .i64 c.b, .int .i64 c.k, .slice a2 c.M.length p2, .slice a3 c.C.length p3] 52)
  have hb : Below w.heap.size w (w.alloc (.cells #[.int .i64 t, .int .i64 x, .int .i64 c.e, .int .i64 c.b, .int .i64 c.k, .slice a2 c.M.length p2, .slice a3 c.C.length p3] 52)) := (Below.refl _ _).alloc (Nat.le_refl _) _
  have hme := hm
  simp only [mayE, Bool.and_eq_true, decide_eq_true_eq] at hme
  obtain ⟨ht1, ht2, hk⟩ := hme
  obtain ⟨hx0, hx1, hlow, -, -⟩ := mayK_in hk
  have hu : U64 t := ⟨by omega, by omega⟩
  have hw1 : IntKind.u64.wrap t = t := wrap_u64_in _ hu
  have l1 := putN_length t.toNat (by omega)
  have l2 := putD_len (x := x) (c := c) ⟨hx0, by omega⟩ hlow
  have hpe : putN t.toNat ++ putD x c = putE t x c := rfl
  have cp := fun w => put_any t w hu
  have cd := fun w' (hb' : Below (w.alloc (.cells #[.int .i64 t, .int .i64 x, .int .i64 c.e, .int .i64 c.b, .int .i64 c.k, .slice a2 c.M.length p2, .slice a3 c.C.length p3] 52)).heap.size (w.alloc (.cells #[.int .i64 t, .int .i64 x, .int .i64 c.e, .int .i64 c.b, .int .i64 c.k, .slice a2 c.M.length p2, .slice a3 c.C.length p3] 52)) w') => dput x c a2 a3 p2 p3 w' ((h.below hb).below hb') ⟨hx0, by omega⟩ hlow
  have cm := emayE t x c a2 a3 p2 p3 _ (h.below hb)
  rw [hm] at cm
  obtain ⟨R, hR⟩ : ∃ R, putE t x c = R := ⟨_, rfl⟩
  obtain ⟨P, hP⟩ : ∃ P, putN t.toNat = P := ⟨_, rfl⟩
  obtain ⟨D, hD⟩ : ∃ D, putD x c = D := ⟨_, rfl⟩
  rw [hR] at hpe
  rw [hR]
  simp only [hP] at cp hpe l1
  simp only [hD] at cd hpe l2
  have HPE := Lib.hid hpe
  have HX := Lib.hid (And.intro hy hb)
  have hl3 : ¬ 9223372036854775807 < P.length + D.length := by omega
  have hl4 : P.length + D.length ≤ 9223372036854775807 := by omega
  have sa := str_append P D
  clear hR hP hD hpe hb h hm hk hlow hu
  go_enter Try.func95, Try.ntmps95
  go_upto_region 1 with fail
  generalize w.alloc (.cells #[.int .i64 t, .int .i64 x, .int .i64 c.e, .int .i64 c.b, .int .i64 c.k, .slice a2 c.M.length p2, .slice a3 c.C.length p3] 52) = w1 at *
  have d0 := cell_atD hy 0 (v := .int .i64 t) rfl
  have d1 := cell_atD hy 1 (v := .int .i64 x) rfl
  have d2 := cell_atD hy 2 (v := .int .i64 c.e) rfl
  have d3 := cell_atD hy 3 (v := .int .i64 c.b) rfl
  have d4 := cell_atD hy 4 (v := .int .i64 c.k) rfl
  have d5 := cell_atD hy 5 (v := .slice a2 c.M.length p2) rfl
  have d6 := cell_atD hy 6 (v := .slice a3 c.C.length p3) rfl
  clear hy
  go_wp2_with fail
  refine Calls.mono cm ?_
  rintro ev w2 ⟨rfl, hb2⟩
  have hy2 := below_at hb2 (lt_heap HX.out.1) HX.out.1
  clear d0 d1 d2 d3 d4 d5 d6 cm
  have d0 := cell_atD hy2 0 (v := .int .i64 t) rfl
  have d1 := cell_atD hy2 1 (v := .int .i64 x) rfl
  have d2 := cell_atD hy2 2 (v := .int .i64 c.e) rfl
  have d3 := cell_atD hy2 3 (v := .int .i64 c.b) rfl
  have d4 := cell_atD hy2 4 (v := .int .i64 c.k) rfl
  have d5 := cell_atD hy2 5 (v := .slice a2 c.M.length p2) rfl
  have d6 := cell_atD hy2 6 (v := .slice a3 c.C.length p3) rfl
  obtain ⟨N, hN⟩ : ∃ N, w2.heap.size = N := ⟨_, rfl⟩
  have hlt : w.heap.size < N := by have := lt_heap hy2; omega
  have HN := Lib.hid hN
  have HB2 := Lib.hid hb2
  have cs1 : ∀ w', N ≤ w'.heap.size → Calls Try.prog 113 #[.int .u64 t] w' fun e w'' => e = .returned (.string ⟨P.toArray⟩) ∧ Stays N w' w'' := fun w' h => (cp w').mono fun e w'' ⟨he, hw⟩ => ⟨he, stays_of h hw⟩
  have cs2 : ∀ w', N ≤ w'.heap.size ∧ Below N w2 w' → Calls Try.prog 137 #[.agg #[.int .i64 x, .int .i64 c.e, .int .i64 c.b, .int .i64 c.k, .slice a2 c.M.length p2, .slice a3 c.C.length p3]] w' fun e w'' => e = .returned (.string ⟨D.toArray⟩) ∧ Stays N w' w'' := fun w' h => (cd w' (HB2.out.trans (h.2.mono (by rw [← HN.out]; exact HB2.out.size)))).mono fun e w'' ⟨he, hw⟩ => ⟨he, stays_of h.1 hw⟩
  clear hy2 hN hb2 cp cd
  go_upto_region 3 with fail
  go_region_held3 (fun w' => N ≤ w'.heap.size ∧ Below N w2 w' ∧ ∀ b o, b < N → w'.cell? ⟨b, o, none⟩ = w2.cell? ⟨b, o, none⟩) (first | assumption | exact keeps_start HN.out | exact keeps_next (by assumption) (by assumption)) (first | (go_at_call 113; ((with_reducible refine Calls.mono (cs1 _ (And.left (by assumption))) ?_)); rintro e wz ⟨rfl, hz⟩) | (go_at_call 137; ((with_reducible refine Calls.mono (cs2 _ ?hk) ?_)); (case hk => exact keepsV_two (by assumption)); rintro e wz ⟨rfl, hz⟩))
  rename_i hfin
  have FIN := Lib.hid ((HX.out.2.trans (HB2.out.mono HX.out.2.size)).trans (hfin.2.1.mono (by omega)))
  clear hfin
  go_wp2_with fail
  go_ret
  exact ⟨ret_str (by rw [HPE.out]), FIN.out⟩
/-- what Get tells of bytes -/
def getS (l : List UInt8) : RS := (⟨l, 0⟩ : RS).entS.endS
def getT (l : List UInt8) : Int := if (getS l).e ≠ 0 then 0 else (⟨l, 0⟩ : RS).entT
def getX (l : List UInt8) : Int := if (getS l).e ≠ 0 then 0 else (⟨l, 0⟩ : RS).entX
def getC (l : List UInt8) : CF := if (getS l).e ≠ 0 then ⟨0, 0, 0, [], []⟩ else (⟨l, 0⟩ : RS).entC
def EGetP (w : World) (l : List UInt8) (ev : Ending) (w' : World) : Prop :=
  ∃ d1 s1 d2 s2, ev = .returned (.tuple #[.agg #[.int .i64 (getT l), .int .i64 (getX l), .int .i64 (getC l).e, .int .i64 (getC l).b, .int .i64 (getC l).k, .slice d1 (getC l).M.length s1, .slice d2 (getC l).C.length s2], .int .i64 (getS l).e]) ∧ CFO (getC l) (w.heap.size + 1) w' (.slice d1 (getC l).M.length s1) (.slice d2 (getC l).C.length s2) ∧ Below w.heap.size w w'
set_option maxHeartbeats 3200000 in
set_option maxRecDepth 40000 in
theorem eget (l : List UInt8) (w : World) : Calls Try.prog 27 #[.string ⟨l.toArray⟩] w (EGetP w l) := by
  have hx := heap_alloc_self w (.cells #[.int .i64 0, .int .i64 0, .int .i64 0, .int .i64 0, .int .i64 0, .slice none 0 0, .slice none 0 0] 52)
  have hb : Below w.heap.size w (w.alloc (.cells #[.int .i64 0, .int .i64 0, .int .i64 0, .int .i64 0, .int .i64 0, .slice none 0 0, .slice none 0 0] 52)) := (Below.refl _ _).alloc (Nat.le_refl _) _
  have hz : (w.alloc (.cells #[.int .i64 0, .int .i64 0, .int .i64 0, .int .i64 0, .int .i64 0, .slice none 0 0, .slice none 0 0] 52)).heap.size = w.heap.size + 1 := by simp
  have cf := from_any ⟨l.toArray⟩ (w.alloc (.cells #[.int .i64 0, .int .i64 0, .int .i64 0, .int .i64 0, .int .i64 0, .slice none 0 0, .slice none 0 0] 52))
  obtain ⟨S, hS⟩ : ∃ S, (⟨l, 0⟩ : RS).entS = S := ⟨_, rfl⟩
  obtain ⟨t0, ht0⟩ : ∃ t, (⟨l, 0⟩ : RS).entT = t := ⟨_, rfl⟩
  obtain ⟨x0, hx0⟩ : ∃ x, (⟨l, 0⟩ : RS).entX = x := ⟨_, rfl⟩
  obtain ⟨c, hc⟩ : ∃ c, (⟨l, 0⟩ : RS).entC = c := ⟨_, rfl⟩
  obtain ⟨E, hE⟩ : ∃ E, S.endS = E := ⟨_, rfl⟩
  have g0 : getS l = E := by rw [getS, hS, hE]
  have g1 : getT l = if E.e ≠ 0 then 0 else t0 := by rw [getT, g0, ht0]
  have g2 : getX l = if E.e ≠ 0 then 0 else x0 := by rw [getX, g0, hx0]
  have g3 : getC l = if E.e ≠ 0 then ⟨0, 0, 0, [], []⟩ else c := by rw [getC, g0, hc]
  have HG := Lib.hid (And.intro g0 (And.intro g1 (And.intro g2 g3)))
  have ct : ∀ b w', Src w' b ⟨l, 0⟩ → Calls Try.prog 29 #[.pointer (some ⟨b, 0, none⟩)] w' (ETakeP b w' t0 x0 c S) := by
    intro b w' hs
    have := etakeG ⟨l, 0⟩ b w' hs
    rw [hS, ht0, hx0, hc] at this
    exact this
  have CT := Lib.hid ct
  have HE := Lib.hid hE
  clear hS ht0 hx0 hc hE g0 g1 g2 g3 ct
  go_enter Try.func27, Try.ntmps27
  go_wp2_with fail
  refine Calls.mono cf ?_
  rintro ev w2 ⟨rfl, rfl⟩
  have hx2 := below_at ((Below.refl _ _).alloc (Nat.le_refl _) (.cells #[.string ⟨l.toArray⟩, .int .i64 0] 134)) (lt_heap hx) hx
  have hb2 := hb.trans (((Below.refl _ _).alloc (Nat.le_refl _) (.cells #[.string ⟨l.toArray⟩, .int .i64 0] 134)).mono hb.size)
  have hs2 : Src ((w.alloc (.cells #[.int .i64 0, .int .i64 0, .int .i64 0, .int .i64 0, .int .i64 0, .slice none 0 0, .slice none 0 0] 52)).alloc (.cells #[.string ⟨l.toArray⟩, .int .i64 0] 134)) (w.alloc (.cells #[.int .i64 0, .int .i64 0, .int .i64 0, .int .i64 0, .int .i64 0, .slice none 0 0, .slice none 0 0] 52)).heap.size ⟨l, 0⟩ := heap_alloc_self _ _
  have ct := CT.out _ _ hs2
  have hz2 : ((w.alloc (.cells #[.int .i64 0, .int .i64 0, .int .i64 0, .int .i64 0, .int .i64 0, .slice none 0 0, .slice none 0 0] 52)).alloc (.cells #[.string ⟨l.toArray⟩, .int .i64 0] 134)).heap.size = w.heap.size + 2 := by simp
  rw [hz] at hs2 ct
  try rw [hz]
  clear hx hb cf hz CT
  generalize (w.alloc (.cells #[.int .i64 0, .int .i64 0, .int .i64 0, .int .i64 0, .int .i64 0, .slice none 0 0, .slice none 0 0] 52)).alloc (.cells #[.string ⟨l.toArray⟩, .int .i64 0] 134) = W2 at *
  have HX := Lib.hid (And.intro hx2 (And.intro hb2 (And.intro hs2 hz2)))
  clear hx2 hb2 hs2 hz2
  go_wp2_with fail
  refine Calls.mono ct ?_
  rintro ev w3 ⟨a2, p2, a3, p3, rfl, hL3, s3, t3⟩
  obtain ⟨hx2, hb2, hs2, hz2⟩ := HX.out
  have hx3 := (t3.block _ (lt_heap hx2) (by omega)).trans hx2
  have hb3 := hb2.trans (t3.below (B := w.heap.size) (by omega) (by omega))
  have hP := heap_alloc_self w3 (.cells #[.int .i64 t0, .int .i64 x0, .int .i64 c.e, .int .i64 c.b, .int .i64 c.k, .slice a2 c.M.length p2, .slice a3 c.C.length p3] 52)
  have hb34 : Below w3.heap.size w3 (w3.alloc (.cells #[.int .i64 t0, .int .i64 x0, .int .i64 c.e, .int .i64 c.b, .int .i64 c.k, .slice a2 c.M.length p2, .slice a3 c.C.length p3] 52)) := (Below.refl _ _).alloc (Nat.le_refl _) _
  have hz3 : w.heap.size + 2 ≤ w3.heap.size := by have := t3.size; omega
  have H3 := Lib.hid (And.intro (below_at hb34 (lt_heap hx3) hx3) (And.intro hP (And.intro (below_at hb34 (lt_heap s3) s3) (And.intro (hb3.trans (hb34.mono (by omega))) (And.intro (CFO.base (hL3.below hb34) (show w.heap.size + 2 ≤ W2.heap.size + 1 by omega)) hz3)))))
  clear hx2 hb2 hs2 hz2 HX hx3 hb3 hP hb34 hz3 hL3 s3 t3 ct
  go_upto_region 3 with fail
  generalize w3.alloc (.cells #[.int .i64 t0, .int .i64 x0, .int .i64 c.e, .int .i64 c.b, .int .i64 c.k, .slice a2 c.M.length p2, .slice a3 c.C.length p3] 52) = W3 at *
  have ce := end_src (w.heap.size + 1) S W3 H3.out.2.2.1
  rw [HE.out] at ce
  go_wp2_with fail
  refine Calls.mono ce ?_
  rintro ev w4 ⟨rfl, s4, t4⟩
  obtain ⟨hx, hP, hs, hb, hL, hz⟩ := H3.out
  have hx4 := (t4.block _ (lt_heap hx) (by omega)).trans hx
  have hP4 := (t4.block _ (lt_heap hP) (by omega)).trans hP
  have hb4 := hb.trans (t4.below (B := w.heap.size) (by omega) (by have := hb.size; omega))
  have H4 := Lib.hid (And.intro hx4 (And.intro hP4 (And.intro hb4 s4)))
  have hLL : CFO c (w.heap.size + 2) W3 (.slice a2 c.M.length p2) (.slice a3 c.C.length p3) := hL
  have HLL := Lib.hid (hLL.only t4 (by omega))
  have c4 := err_some (w.heap.size + 1) E.e w4 (Src.c1 s4)
  have z0 := cell_atD hx4 0 (v := .int .i64 0) rfl
  have z1 := cell_atD hx4 1 (v := .int .i64 0) rfl
  have z2 := cell_atD hx4 2 (v := .int .i64 0) rfl
  have z3 := cell_atD hx4 3 (v := .int .i64 0) rfl
  have z4 := cell_atD hx4 4 (v := .int .i64 0) rfl
  have z5 := cell_atD hx4 5 (v := .slice none 0 0) rfl
  have z6 := cell_atD hx4 6 (v := .slice none 0 0) rfl
  have n0 := cell_atD hP4 0 (v := .int .i64 t0) rfl
  have n1 := cell_atD hP4 1 (v := .int .i64 x0) rfl
  have n2 := cell_atD hP4 2 (v := .int .i64 c.e) rfl
  have n3 := cell_atD hP4 3 (v := .int .i64 c.b) rfl
  have n4 := cell_atD hP4 4 (v := .int .i64 c.k) rfl
  have n5 := cell_atD hP4 5 (v := .slice a2 c.M.length p2) rfl
  have n6 := cell_atD hP4 6 (v := .slice a3 c.C.length p3) rfl
  have fz : ∀ j, w4.frozen? ⟨w.heap.size, j, none⟩ = false := fun j => by simp [World.frozen?, hx4]
  by_cases hE : E.e = 0
  · have g0 := HG.out.1
    have g1 : getT l = t0 := by rw [HG.out.2.1, if_neg (by simpa using hE)]
    have g2 : getX l = x0 := by rw [HG.out.2.2.1, if_neg (by simpa using hE)]
    have g3 : getC l = c := by rw [HG.out.2.2.2, if_neg (by simpa using hE)]
    have HGG := Lib.hid (And.intro g0 (And.intro g1 (And.intro g2 g3)))
    have HE0 := Lib.hid hE
    rw [hE]
    have k1 : (w4.setCell ⟨w.heap.size, 0, none⟩ (.int .i64 t0)).heap[w.heap.size]? = some (.cells #[.int .i64 t0, .int .i64 0, .int .i64 0, .int .i64 0, .int .i64 0, .slice none 0 0, .slice none 0 0] 52) := heap_set_self hx4 0 _
    have k2 : ((w4.setCell ⟨w.heap.size, 0, none⟩ (.int .i64 t0)).setCell ⟨w.heap.size, 1, none⟩ (.int .i64 x0)).heap[w.heap.size]? = some (.cells #[.int .i64 t0, .int .i64 x0, .int .i64 0, .int .i64 0, .int .i64 0, .slice none 0 0, .slice none 0 0] 52) := heap_set_self k1 1 _
    have k3 : (((w4.setCell ⟨w.heap.size, 0, none⟩ (.int .i64 t0)).setCell ⟨w.heap.size, 1, none⟩ (.int .i64 x0)).setCell ⟨w.heap.size, 2, none⟩ (.int .i64 c.e)).heap[w.heap.size]? = some (.cells #[.int .i64 t0, .int .i64 x0, .int .i64 c.e, .int .i64 0, .int .i64 0, .slice none 0 0, .slice none 0 0] 52) := heap_set_self k2 2 _
    have k4 : ((((w4.setCell ⟨w.heap.size, 0, none⟩ (.int .i64 t0)).setCell ⟨w.heap.size, 1, none⟩ (.int .i64 x0)).setCell ⟨w.heap.size, 2, none⟩ (.int .i64 c.e)).setCell ⟨w.heap.size, 3, none⟩ (.int .i64 c.b)).heap[w.heap.size]? = some (.cells #[.int .i64 t0, .int .i64 x0, .int .i64 c.e, .int .i64 c.b, .int .i64 0, .slice none 0 0, .slice none 0 0] 52) := heap_set_self k3 3 _
    have k5 : (((((w4.setCell ⟨w.heap.size, 0, none⟩ (.int .i64 t0)).setCell ⟨w.heap.size, 1, none⟩ (.int .i64 x0)).setCell ⟨w.heap.size, 2, none⟩ (.int .i64 c.e)).setCell ⟨w.heap.size, 3, none⟩ (.int .i64 c.b)).setCell ⟨w.heap.size, 4, none⟩ (.int .i64 c.k)).heap[w.heap.size]? = some (.cells #[.int .i64 t0, .int .i64 x0, .int .i64 c.e, .int .i64 c.b, .int .i64 c.k, .slice none 0 0, .slice none 0 0] 52) := heap_set_self k4 4 _
    have k6 : ((((((w4.setCell ⟨w.heap.size, 0, none⟩ (.int .i64 t0)).setCell ⟨w.heap.size, 1, none⟩ (.int .i64 x0)).setCell ⟨w.heap.size, 2, none⟩ (.int .i64 c.e)).setCell ⟨w.heap.size, 3, none⟩ (.int .i64 c.b)).setCell ⟨w.heap.size, 4, none⟩ (.int .i64 c.k)).setCell ⟨w.heap.size, 5, none⟩ (.slice a2 c.M.length p2)).heap[w.heap.size]? = some (.cells #[.int .i64 t0, .int .i64 x0, .int .i64 c.e, .int .i64 c.b, .int .i64 c.k, .slice a2 c.M.length p2, .slice none 0 0] 52) := heap_set_self k5 5 _
    have k7 : (((((((w4.setCell ⟨w.heap.size, 0, none⟩ (.int .i64 t0)).setCell ⟨w.heap.size, 1, none⟩ (.int .i64 x0)).setCell ⟨w.heap.size, 2, none⟩ (.int .i64 c.e)).setCell ⟨w.heap.size, 3, none⟩ (.int .i64 c.b)).setCell ⟨w.heap.size, 4, none⟩ (.int .i64 c.k)).setCell ⟨w.heap.size, 5, none⟩ (.slice a2 c.M.length p2)).setCell ⟨w.heap.size, 6, none⟩ (.slice a3 c.C.length p3)).heap[w.heap.size]? = some (.cells #[.int .i64 t0, .int .i64 x0, .int .i64 c.e, .int .i64 c.b, .int .i64 c.k, .slice a2 c.M.length p2, .slice a3 c.C.length p3] 52) := heap_set_self k6 6 _
    have GI := Lib.hid k7
    have GO := Lib.hid (show Only (w.heap.size) w4 (((((((w4.setCell ⟨w.heap.size, 0, none⟩ (.int .i64 t0)).setCell ⟨w.heap.size, 1, none⟩ (.int .i64 x0)).setCell ⟨w.heap.size, 2, none⟩ (.int .i64 c.e)).setCell ⟨w.heap.size, 3, none⟩ (.int .i64 c.b)).setCell ⟨w.heap.size, 4, none⟩ (.int .i64 c.k)).setCell ⟨w.heap.size, 5, none⟩ (.slice a2 c.M.length p2)).setCell ⟨w.heap.size, 6, none⟩ (.slice a3 c.C.length p3)) from (((((((Only.refl _ _).set 0 _).set 1 _).set 2 _).set 3 _).set 4 _).set 5 _).set 6 _)
    clear k1 k2 k3 k4 k5 k6 k7
    clear hx hP hs hb hL hz hx4 hP4 hb4 s4 t4 hLL c4 ce hE g0 g1 g2 g3
    go_wp2_with fail
    generalize (((((((w4.setCell ⟨w.heap.size, 0, none⟩ (.int .i64 t0)).setCell ⟨w.heap.size, 1, none⟩ (.int .i64 x0)).setCell ⟨w.heap.size, 2, none⟩ (.int .i64 c.e)).setCell ⟨w.heap.size, 3, none⟩ (.int .i64 c.b)).setCell ⟨w.heap.size, 4, none⟩ (.int .i64 c.k)).setCell ⟨w.heap.size, 5, none⟩ (.slice a2 c.M.length p2)).setCell ⟨w.heap.size, 6, none⟩ (.slice a3 c.C.length p3)) = wf at *
    have fi := GI.out
    have y0 := cell_atD fi 0 (v := .int .i64 t0) rfl
    have y1 := cell_atD fi 1 (v := .int .i64 x0) rfl
    have y2 := cell_atD fi 2 (v := .int .i64 c.e) rfl
    have y3 := cell_atD fi 3 (v := .int .i64 c.b) rfl
    have y4 := cell_atD fi 4 (v := .int .i64 c.k) rfl
    have y5 := cell_atD fi 5 (v := .slice a2 c.M.length p2) rfl
    have y6 := cell_atD fi 6 (v := .slice a3 c.C.length p3) rfl
    clear fi
    refine bodyPost_ret (v := .tuple #[.agg #[.int .i64 t0, .int .i64 x0, .int .i64 c.e, .int .i64 c.b, .int .i64 c.k, .slice a2 c.M.length p2, .slice a3 c.C.length p3], .int .i64 0]) (by simp [results, Try.results27, go_sem, y0, y1, y2, y3, y4, y5, y6]) rfl ?_
    obtain ⟨hx4, hP4, hb4, s4⟩ := H4.out
    refine ⟨a2, p2, a3, p3, ?_, ?_, hb4.trans (GO.out.below (B := w.heap.size) (Nat.le_refl _) hb4.size)⟩
    · rw [HGG.out.1, HGG.out.2.1, HGG.out.2.2.1, HGG.out.2.2.2, HE0.out]
    · rw [HGG.out.2.2.2]
      exact CFO.base (HLL.out.only GO.out (by omega)) (by omega)
  · have g0 := HG.out.1
    have g1 : getT l = 0 := by rw [HG.out.2.1, if_pos hE]
    have g2 : getX l = 0 := by rw [HG.out.2.2.1, if_pos hE]
    have g3 : getC l = ⟨0, 0, 0, [], []⟩ := by rw [HG.out.2.2.2, if_pos hE]
    have HGG := Lib.hid (And.intro g0 (And.intro g1 (And.intro g2 g3)))
    have u1 : (E.e != 0) = true := by simpa using hE
    have u2 : (E.e == 0) = false := by simpa using hE
    have k1 : (w4.setCell ⟨w.heap.size, 0, none⟩ (.int .i64 0)).heap[w.heap.size]? = some (.cells #[.int .i64 0, .int .i64 0, .int .i64 0, .int .i64 0, .int .i64 0, .slice none 0 0, .slice none 0 0] 52) := heap_set_self hx4 0 _
    have k2 : ((w4.setCell ⟨w.heap.size, 0, none⟩ (.int .i64 0)).setCell ⟨w.heap.size, 1, none⟩ (.int .i64 0)).heap[w.heap.size]? = some (.cells #[.int .i64 0, .int .i64 0, .int .i64 0, .int .i64 0, .int .i64 0, .slice none 0 0, .slice none 0 0] 52) := heap_set_self k1 1 _
    have k3 : (((w4.setCell ⟨w.heap.size, 0, none⟩ (.int .i64 0)).setCell ⟨w.heap.size, 1, none⟩ (.int .i64 0)).setCell ⟨w.heap.size, 2, none⟩ (.int .i64 0)).heap[w.heap.size]? = some (.cells #[.int .i64 0, .int .i64 0, .int .i64 0, .int .i64 0, .int .i64 0, .slice none 0 0, .slice none 0 0] 52) := heap_set_self k2 2 _
    have k4 : ((((w4.setCell ⟨w.heap.size, 0, none⟩ (.int .i64 0)).setCell ⟨w.heap.size, 1, none⟩ (.int .i64 0)).setCell ⟨w.heap.size, 2, none⟩ (.int .i64 0)).setCell ⟨w.heap.size, 3, none⟩ (.int .i64 0)).heap[w.heap.size]? = some (.cells #[.int .i64 0, .int .i64 0, .int .i64 0, .int .i64 0, .int .i64 0, .slice none 0 0, .slice none 0 0] 52) := heap_set_self k3 3 _
    have k5 : (((((w4.setCell ⟨w.heap.size, 0, none⟩ (.int .i64 0)).setCell ⟨w.heap.size, 1, none⟩ (.int .i64 0)).setCell ⟨w.heap.size, 2, none⟩ (.int .i64 0)).setCell ⟨w.heap.size, 3, none⟩ (.int .i64 0)).setCell ⟨w.heap.size, 4, none⟩ (.int .i64 0)).heap[w.heap.size]? = some (.cells #[.int .i64 0, .int .i64 0, .int .i64 0, .int .i64 0, .int .i64 0, .slice none 0 0, .slice none 0 0] 52) := heap_set_self k4 4 _
    have k6 : ((((((w4.setCell ⟨w.heap.size, 0, none⟩ (.int .i64 0)).setCell ⟨w.heap.size, 1, none⟩ (.int .i64 0)).setCell ⟨w.heap.size, 2, none⟩ (.int .i64 0)).setCell ⟨w.heap.size, 3, none⟩ (.int .i64 0)).setCell ⟨w.heap.size, 4, none⟩ (.int .i64 0)).setCell ⟨w.heap.size, 5, none⟩ (.slice none 0 0)).heap[w.heap.size]? = some (.cells #[.int .i64 0, .int .i64 0, .int .i64 0, .int .i64 0, .int .i64 0, .slice none 0 0, .slice none 0 0] 52) := heap_set_self k5 5 _
    have k7 : (((((((w4.setCell ⟨w.heap.size, 0, none⟩ (.int .i64 0)).setCell ⟨w.heap.size, 1, none⟩ (.int .i64 0)).setCell ⟨w.heap.size, 2, none⟩ (.int .i64 0)).setCell ⟨w.heap.size, 3, none⟩ (.int .i64 0)).setCell ⟨w.heap.size, 4, none⟩ (.int .i64 0)).setCell ⟨w.heap.size, 5, none⟩ (.slice none 0 0)).setCell ⟨w.heap.size, 6, none⟩ (.slice none 0 0)).heap[w.heap.size]? = some (.cells #[.int .i64 0, .int .i64 0, .int .i64 0, .int .i64 0, .int .i64 0, .slice none 0 0, .slice none 0 0] 52) := heap_set_self k6 6 _
    have GI := Lib.hid k7
    have GO := Lib.hid (show Only (w.heap.size) w4 (((((((w4.setCell ⟨w.heap.size, 0, none⟩ (.int .i64 0)).setCell ⟨w.heap.size, 1, none⟩ (.int .i64 0)).setCell ⟨w.heap.size, 2, none⟩ (.int .i64 0)).setCell ⟨w.heap.size, 3, none⟩ (.int .i64 0)).setCell ⟨w.heap.size, 4, none⟩ (.int .i64 0)).setCell ⟨w.heap.size, 5, none⟩ (.slice none 0 0)).setCell ⟨w.heap.size, 6, none⟩ (.slice none 0 0)) from (((((((Only.refl _ _).set 0 _).set 1 _).set 2 _).set 3 _).set 4 _).set 5 _).set 6 _)
    clear k1 k2 k3 k4 k5 k6 k7
    clear hx hP hs hb hL hz hx4 hP4 hb4 s4 t4 hLL ce hE g0 g1 g2 g3
    go_wp2_with fail
    refine Calls.mono c4 ?_
    rintro ev w5 ⟨rfl, rfl⟩
    go_wp2_with fail
    generalize (((((((w4.setCell ⟨w.heap.size, 0, none⟩ (.int .i64 0)).setCell ⟨w.heap.size, 1, none⟩ (.int .i64 0)).setCell ⟨w.heap.size, 2, none⟩ (.int .i64 0)).setCell ⟨w.heap.size, 3, none⟩ (.int .i64 0)).setCell ⟨w.heap.size, 4, none⟩ (.int .i64 0)).setCell ⟨w.heap.size, 5, none⟩ (.slice none 0 0)).setCell ⟨w.heap.size, 6, none⟩ (.slice none 0 0)) = wf at *
    have fi := GI.out
    have y0 := cell_atD fi 0 (v := .int .i64 0) rfl
    have y1 := cell_atD fi 1 (v := .int .i64 0) rfl
    have y2 := cell_atD fi 2 (v := .int .i64 0) rfl
    have y3 := cell_atD fi 3 (v := .int .i64 0) rfl
    have y4 := cell_atD fi 4 (v := .int .i64 0) rfl
    have y5 := cell_atD fi 5 (v := .slice none 0 0) rfl
    have y6 := cell_atD fi 6 (v := .slice none 0 0) rfl
    clear fi
    refine bodyPost_ret (v := .tuple #[.agg #[.int .i64 0, .int .i64 0, .int .i64 0, .int .i64 0, .int .i64 0, .slice none 0 0, .slice none 0 0], .int .i64 E.e]) (by simp [results, Try.results27, go_sem, y0, y1, y2, y3, y4, y5, y6]) rfl ?_
    obtain ⟨hx4, hP4, hb4, s4⟩ := H4.out
    refine ⟨none, 0, none, 0, ?_, ?_, hb4.trans (GO.out.below (B := w.heap.size) (Nat.le_refl _) hb4.size)⟩
    · rw [HGG.out.1, HGG.out.2.1, HGG.out.2.2.1, HGG.out.2.2.2]
      rfl
    · rw [HGG.out.2.2.2]
      exact ⟨World.ownsRow_nil _ _ _ _, World.ownsRow_nil _ _ _ _⟩
theorem put3 : putE 3 0 ⟨0, 0, 0, [], []⟩ = [1, 3, 0, 1, 3, 0, 0, 0, 0, 0] := by decide +kernel
theorem get3 : (getS [1, 3, 0, 1, 3, 0, 0, 0, 0, 0]).e = 0 ∧ getT [1, 3, 0, 1, 3, 0, 0, 0, 0, 0] = 3 ∧ getX [1, 3, 0, 1, 3, 0, 0, 0, 0, 0] = 0 ∧ getC [1, 3, 0, 1, 3, 0, 0, 0, 0, 0] = ⟨0, 0, 0, [], []⟩ := by
  refine ⟨?_, ?_, ?_, ?_⟩ <;> rfl
end Go.Proofs.Ytlhjgpedmnjbpaa
/-
  A command's copy: own.Cmd.
-/

namespace Go.Proofs.Ytlhjgpedmnjbpaa
open Go.RowKit
set_option linter.unusedVariables false
set_option linter.unusedSimpArgs false

set_option maxHeartbeats 1600000 in
theorem ocmd (x : Int) (c : CF) (a1 a2 : Option Addr) (q1 q2 : Nat) (w : World) (h : CFat c w (.slice a1 c.M.length q1) (.slice a2 c.C.length q2)) (hs : short c) :
    Calls Try.prog 97 #[.agg #[.int .i64 x, .int .i64 c.e, .int .i64 c.b, .int .i64 c.k, .slice a1 c.M.length q1, .slice a2 c.C.length q2]] w fun ev w' => ∃ b1 p1 b2 p2, ev = .returned (.agg #[.int .i64 x, .int .i64 c.e, .int .i64 c.b, .int .i64 c.k, .slice b1 c.M.length p1, .slice b2 c.C.length p2]) ∧ CFO c w.heap.size w' (.slice b1 c.M.length p1) (.slice b2 c.C.length p2) ∧ Below w.heap.size w w' := by
  have hx := alloc_far (o := .cells #[.int .i64 0, .int .i64 0, .int .i64 0, .int .i64 0, .slice none 0 0, .slice none 0 0] 26) (heap_alloc_self w (.cells #[.int .i64 x, .int .i64 c.e, .int .i64 c.b, .int .i64 c.k, .slice a1 c.M.length q1, .slice a2 c.C.length q2] 26))
  have hy := heap_alloc_self (w.alloc (.cells #[.int .i64 x, .int .i64 c.e, .int .i64 c.b, .int .i64 c.k, .slice a1 c.M.length q1, .slice a2 c.C.length q2] 26)) (.cells #[.int .i64 0, .int .i64 0, .int .i64 0, .int .i64 0, .slice none 0 0, .slice none 0 0] 26)
  have hz : (w.alloc (.cells #[.int .i64 x, .int .i64 c.e, .int .i64 c.b, .int .i64 c.k, .slice a1 c.M.length q1, .slice a2 c.C.length q2] 26)).heap.size = w.heap.size + 1 := by simp
  rw [hz] at hy
  have hb : Below w.heap.size w ((w.alloc (.cells #[.int .i64 x, .int .i64 c.e, .int .i64 c.b, .int .i64 c.k, .slice a1 c.M.length q1, .slice a2 c.C.length q2] 26)).alloc (.cells #[.int .i64 0, .int .i64 0, .int .i64 0, .int .i64 0, .slice none 0 0, .slice none 0 0] 26)) := ((Below.refl _ _).alloc (Nat.le_refl _) _).alloc (by simp) _
  go_enter Try.func97, Try.ntmps97
  go_upto_region 1 with fail
  generalize (w.alloc (.cells #[.int .i64 x, .int .i64 c.e, .int .i64 c.b, .int .i64 c.k, .slice a1 c.M.length q1, .slice a2 c.C.length q2] 26)).alloc (.cells #[.int .i64 0, .int .i64 0, .int .i64 0, .int .i64 0, .slice none 0 0, .slice none 0 0] 26) = w1 at *
  have d0 := cell_atD hx 0 (v := .int .i64 x) rfl
  have d1 := cell_atD hx 1 (v := .int .i64 c.e) rfl
  have d2 := cell_atD hx 2 (v := .int .i64 c.b) rfl
  have d3 := cell_atD hx 3 (v := .int .i64 c.k) rfl
  have d4 := cell_atD hx 4 (v := .slice a1 c.M.length q1) rfl
  have d5 := cell_atD hx 5 (v := .slice a2 c.C.length q2) rfl
  have cn := oconf' c _ _ w1 (h.below hb) hs
  have hz2 : w.heap.size + 2 ≤ w1.heap.size := by have := lt_heap hy; omega
  have HX := Lib.hid (And.intro hx (And.intro hy (And.intro hb hz2)))
  clear hx hy hz hb hz2 h
  go_wp2_with fail
  refine Calls.mono cn ?_
  rintro ev w2 ⟨b1, p1, b2, p2, rfl, ho, hb2⟩
  clear cn d0 d1 d2 d3 d4 d5
  obtain ⟨hx, hy, hb, hz⟩ := HX.out
  clear HX
  have ho := ho.base hz
  have kx := below_at hb2 (lt_heap hx) hx
  have ky := below_at hb2 (lt_heap hy) hy
  have kb := hb.trans (hb2.mono hb.size)
  clear hx hy hb hz hb2
  have d0 := cell_atD kx 0 (v := .int .i64 x) rfl
  have d1 := cell_atD kx 1 (v := .int .i64 c.e) rfl
  have d2 := cell_atD kx 2 (v := .int .i64 c.b) rfl
  have d3 := cell_atD kx 3 (v := .int .i64 c.k) rfl
  have d4 := cell_atD kx 4 (v := .slice a1 c.M.length q1) rfl
  have d5 := cell_atD kx 5 (v := .slice a2 c.C.length q2) rfl
  have fz : ∀ j, w2.frozen? ⟨w.heap.size, j, none⟩ = false := fun j => by simp [World.frozen?, kx]
  have g1 : (w2.setCell ⟨w.heap.size, 1, none⟩ (.int .i64 c.e)).heap[w.heap.size]? = some (.cells #[.int .i64 x, .int .i64 c.e, .int .i64 c.b, .int .i64 c.k, .slice a1 c.M.length q1, .slice a2 c.C.length q2] 26) := heap_set_self kx 1 _
  have g2 : ((w2.setCell ⟨w.heap.size, 1, none⟩ (.int .i64 c.e)).setCell ⟨w.heap.size, 2, none⟩ (.int .i64 c.b)).heap[w.heap.size]? = some (.cells #[.int .i64 x, .int .i64 c.e, .int .i64 c.b, .int .i64 c.k, .slice a1 c.M.length q1, .slice a2 c.C.length q2] 26) := heap_set_self g1 2 _
  have g3 : (((w2.setCell ⟨w.heap.size, 1, none⟩ (.int .i64 c.e)).setCell ⟨w.heap.size, 2, none⟩ (.int .i64 c.b)).setCell ⟨w.heap.size, 3, none⟩ (.int .i64 c.k)).heap[w.heap.size]? = some (.cells #[.int .i64 x, .int .i64 c.e, .int .i64 c.b, .int .i64 c.k, .slice a1 c.M.length q1, .slice a2 c.C.length q2] 26) := heap_set_self g2 3 _
  have g4 : ((((w2.setCell ⟨w.heap.size, 1, none⟩ (.int .i64 c.e)).setCell ⟨w.heap.size, 2, none⟩ (.int .i64 c.b)).setCell ⟨w.heap.size, 3, none⟩ (.int .i64 c.k)).setCell ⟨w.heap.size, 4, none⟩ (.slice b1 c.M.length p1)).heap[w.heap.size]? = some (.cells #[.int .i64 x, .int .i64 c.e, .int .i64 c.b, .int .i64 c.k, .slice b1 c.M.length p1, .slice a2 c.C.length q2] 26) := heap_set_self g3 4 _
  have g5 : (((((w2.setCell ⟨w.heap.size, 1, none⟩ (.int .i64 c.e)).setCell ⟨w.heap.size, 2, none⟩ (.int .i64 c.b)).setCell ⟨w.heap.size, 3, none⟩ (.int .i64 c.k)).setCell ⟨w.heap.size, 4, none⟩ (.slice b1 c.M.length p1)).setCell ⟨w.heap.size, 5, none⟩ (.slice b2 c.C.length p2)).heap[w.heap.size]? = some (.cells #[.int .i64 x, .int .i64 c.e, .int .i64 c.b, .int .i64 c.k, .slice b1 c.M.length p1, .slice b2 c.C.length p2] 26) := heap_set_self g4 5 _
  have gI := Lib.hid g5
  have gO := Lib.hid (show Only (w.heap.size) w2 (((((w2.setCell ⟨w.heap.size, 1, none⟩ (.int .i64 c.e)).setCell ⟨w.heap.size, 2, none⟩ (.int .i64 c.b)).setCell ⟨w.heap.size, 3, none⟩ (.int .i64 c.k)).setCell ⟨w.heap.size, 4, none⟩ (.slice b1 c.M.length p1)).setCell ⟨w.heap.size, 5, none⟩ (.slice b2 c.C.length p2)) from ((((((Only.refl _ _).set 1 _).set 2 _).set 3 _).set 4 _).set 5 _))
  clear g1 g2 g3 g4 g5
  have HX := Lib.hid (And.intro ky (And.intro kb ho))
  clear kx ky kb ho
  go_upto_region 2 with fail
  generalize (((((w2.setCell ⟨w.heap.size, 1, none⟩ (.int .i64 c.e)).setCell ⟨w.heap.size, 2, none⟩ (.int .i64 c.b)).setCell ⟨w.heap.size, 3, none⟩ (.int .i64 c.k)).setCell ⟨w.heap.size, 4, none⟩ (.slice b1 c.M.length p1)).setCell ⟨w.heap.size, 5, none⟩ (.slice b2 c.C.length p2)) = w3 at *
  clear fz d0 d1 d2 d3 d4 d5
  obtain ⟨ky, kb, ho⟩ := HX.out
  clear HX
  have kx := gI.out
  have ky : w3.heap[w.heap.size + 1]? = some _ := (gO.out.block _ (lt_heap ky) (by omega)).trans ky
  have kb := kb.trans (gO.out.below (B := w.heap.size) (by omega) kb.size)
  have ho := ho.only gO.out (by omega)
  clear gI gO
  have d0 := cell_atD kx 0 (v := .int .i64 x) rfl
  have d1 := cell_atD kx 1 (v := .int .i64 c.e) rfl
  have d2 := cell_atD kx 2 (v := .int .i64 c.b) rfl
  have d3 := cell_atD kx 3 (v := .int .i64 c.k) rfl
  have d4 := cell_atD kx 4 (v := .slice b1 c.M.length p1) rfl
  have d5 := cell_atD kx 5 (v := .slice b2 c.C.length p2) rfl
  have e0 := cell_atD ky 0 (v := .int .i64 0) rfl
  have e1 := cell_atD ky 1 (v := .int .i64 0) rfl
  have e2 := cell_atD ky 2 (v := .int .i64 0) rfl
  have e3 := cell_atD ky 3 (v := .int .i64 0) rfl
  have e4 := cell_atD ky 4 (v := .slice none 0 0) rfl
  have e5 := cell_atD ky 5 (v := .slice none 0 0) rfl
  have fz : ∀ j, w3.frozen? ⟨w.heap.size + 1, j, none⟩ = false := fun j => by simp [World.frozen?, ky]
  have g1 : (w3.setCell ⟨w.heap.size + 1, 0, none⟩ (.int .i64 x)).heap[w.heap.size + 1]? = some (.cells #[.int .i64 x, .int .i64 0, .int .i64 0, .int .i64 0, .slice none 0 0, .slice none 0 0] 26) := heap_set_self ky 0 _
  have g2 : ((w3.setCell ⟨w.heap.size + 1, 0, none⟩ (.int .i64 x)).setCell ⟨w.heap.size + 1, 1, none⟩ (.int .i64 c.e)).heap[w.heap.size + 1]? = some (.cells #[.int .i64 x, .int .i64 c.e, .int .i64 0, .int .i64 0, .slice none 0 0, .slice none 0 0] 26) := heap_set_self g1 1 _
  have g3 : (((w3.setCell ⟨w.heap.size + 1, 0, none⟩ (.int .i64 x)).setCell ⟨w.heap.size + 1, 1, none⟩ (.int .i64 c.e)).setCell ⟨w.heap.size + 1, 2, none⟩ (.int .i64 c.b)).heap[w.heap.size + 1]? = some (.cells #[.int .i64 x, .int .i64 c.e, .int .i64 c.b, .int .i64 0, .slice none 0 0, .slice none 0 0] 26) := heap_set_self g2 2 _
  have g4 : ((((w3.setCell ⟨w.heap.size + 1, 0, none⟩ (.int .i64 x)).setCell ⟨w.heap.size + 1, 1, none⟩ (.int .i64 c.e)).setCell ⟨w.heap.size + 1, 2, none⟩ (.int .i64 c.b)).setCell ⟨w.heap.size + 1, 3, none⟩ (.int .i64 c.k)).heap[w.heap.size + 1]? = some (.cells #[.int .i64 x, .int .i64 c.e, .int .i64 c.b, .int .i64 c.k, .slice none 0 0, .slice none 0 0] 26) := heap_set_self g3 3 _
  have g5 : (((((w3.setCell ⟨w.heap.size + 1, 0, none⟩ (.int .i64 x)).setCell ⟨w.heap.size + 1, 1, none⟩ (.int .i64 c.e)).setCell ⟨w.heap.size + 1, 2, none⟩ (.int .i64 c.b)).setCell ⟨w.heap.size + 1, 3, none⟩ (.int .i64 c.k)).setCell ⟨w.heap.size + 1, 4, none⟩ (.slice b1 c.M.length p1)).heap[w.heap.size + 1]? = some (.cells #[.int .i64 x, .int .i64 c.e, .int .i64 c.b, .int .i64 c.k, .slice b1 c.M.length p1, .slice none 0 0] 26) := heap_set_self g4 4 _
  have g6 : ((((((w3.setCell ⟨w.heap.size + 1, 0, none⟩ (.int .i64 x)).setCell ⟨w.heap.size + 1, 1, none⟩ (.int .i64 c.e)).setCell ⟨w.heap.size + 1, 2, none⟩ (.int .i64 c.b)).setCell ⟨w.heap.size + 1, 3, none⟩ (.int .i64 c.k)).setCell ⟨w.heap.size + 1, 4, none⟩ (.slice b1 c.M.length p1)).setCell ⟨w.heap.size + 1, 5, none⟩ (.slice b2 c.C.length p2)).heap[w.heap.size + 1]? = some (.cells #[.int .i64 x, .int .i64 c.e, .int .i64 c.b, .int .i64 c.k, .slice b1 c.M.length p1, .slice b2 c.C.length p2] 26) := heap_set_self g5 5 _
  have gI := Lib.hid g6
  have gO := Lib.hid (show Only (w.heap.size + 1) w3 ((((((w3.setCell ⟨w.heap.size + 1, 0, none⟩ (.int .i64 x)).setCell ⟨w.heap.size + 1, 1, none⟩ (.int .i64 c.e)).setCell ⟨w.heap.size + 1, 2, none⟩ (.int .i64 c.b)).setCell ⟨w.heap.size + 1, 3, none⟩ (.int .i64 c.k)).setCell ⟨w.heap.size + 1, 4, none⟩ (.slice b1 c.M.length p1)).setCell ⟨w.heap.size + 1, 5, none⟩ (.slice b2 c.C.length p2)) from (((((((Only.refl _ _).set 0 _).set 1 _).set 2 _).set 3 _).set 4 _).set 5 _))
  clear g1 g2 g3 g4 g5 g6
  have HX := Lib.hid (And.intro kb ho)
  clear kx ky kb ho
  go_wp2_with fail
  generalize ((((((w3.setCell ⟨w.heap.size + 1, 0, none⟩ (.int .i64 x)).setCell ⟨w.heap.size + 1, 1, none⟩ (.int .i64 c.e)).setCell ⟨w.heap.size + 1, 2, none⟩ (.int .i64 c.b)).setCell ⟨w.heap.size + 1, 3, none⟩ (.int .i64 c.k)).setCell ⟨w.heap.size + 1, 4, none⟩ (.slice b1 c.M.length p1)).setCell ⟨w.heap.size + 1, 5, none⟩ (.slice b2 c.C.length p2)) = wf at *
  have fi := gI.out
  have t0 := cell_atD fi 0 (v := .int .i64 x) rfl
  have t1 := cell_atD fi 1 (v := .int .i64 c.e) rfl
  have t2 := cell_atD fi 2 (v := .int .i64 c.b) rfl
  have t3 := cell_atD fi 3 (v := .int .i64 c.k) rfl
  have t4 := cell_atD fi 4 (v := .slice b1 c.M.length p1) rfl
  have t5 := cell_atD fi 5 (v := .slice b2 c.C.length p2) rfl
  clear fi
  refine bodyPost_ret (v := .agg #[.int .i64 x, .int .i64 c.e, .int .i64 c.b, .int .i64 c.k, .slice b1 c.M.length p1, .slice b2 c.C.length p2]) (by simp [results, Try.results97, go_sem, t0, t1, t2, t3, t4, t5]) rfl ?_
  obtain ⟨kb, ho⟩ := HX.out
  exact ⟨b1, p1, b2, p2, rfl, (ho.only gO.out (by omega)).base (by omega), kb.trans (gO.out.below (B := w.heap.size) (by omega) kb.size)⟩
end Go.Proofs.Ytlhjgpedmnjbpaa
/-
  A voter's log whose entries hold commands: Len, Term, Add.
-/




namespace Go.Proofs.Ytlhjgpedmnjbpaa
open Go.RowKit
set_option linter.unusedVariables false
set_option linter.unusedSimpArgs false

section
variable {P : Program}
theorem run_app2 {t ty e : TypeId} {i : TypeInfo} {z : Value} {size bytes : Nat} (ht : P.underlying t = some (.slice e)) (hi : P.info? e = some i) (hz : i.zero = some z) (hsize : i.size = size) (hby : i.bytes = bytes)
    (hzs : z.cells.size = size) (hsz : 0 < size) (w : World) (base : Nat) (v : Value) (n : Nat) (xs : List Value) (hown : w.ownsRow base e size v n xs) (u : Value) (m : Nat) (news : List Value) (hr : SR w u size m news) (hm0 : 0 < m)
    (h1 : ∀ y ∈ news, y.oneCell' = true) (h63 : n + m ≤ maxLen) (hbytes : (n + m) * bytes ≤ 140737488355328) (hbase : base ≤ w.heap.size) :
    ∃ v' w', (Builtin.append_ #[t, t] ty #[v, u]).run P w = .ok v' w' ∧ w'.ownsRow base e size v' (n + m) (xs ++ news) ∧ w.grownBy w' v.ownBlock ∧ (v'.ownBlock = v.ownBlock ∨ v'.ownBlock = some w.heap.size) := by
  obtain ⟨a, cap, rfl, hmc, hcm, hl, hc⟩ := hr
  have hcells : ∀ ad, a = some ad → ∀ (j : Nat) y, news[j]? = some y → w.cell? (ad.add j) = some y := by
    intro ad e1 j y hj
    rcases hc with h0 | ⟨b, off, e2, _, hcell⟩
    · omega
    · rw [e1] at e2
      cases e2
      rw [add_off]
      exact hcell j y hj
  rcases hc with h0 | ⟨b, off, rfl, _, hcell⟩
  · omega
  · obtain ⟨v', w', hrun, h2, h3, _, h5⟩ := run_append_own_at (P := P) w base t ty e i z size bytes ht hi hz hsize hby hzs hsz v n xs hown ⟨b, off, none⟩ m cap news hl (hcells _ rfl) h1 h63 hbytes hbase
    exact ⟨v', w', hrun, h2, h3, h5⟩
theorem step_app2 {t e : TypeId} {i : TypeInfo} {z : Value} {size bytes : Nat} (ht : P.underlying t = some (.slice e)) (hi : P.info? e = some i) (hz : i.zero = some z) (hsize : i.size = size) (hby : i.bytes = bytes)
    (hzs : z.cells.size = size) (hsz : 0 < size) {ops : Array Oper} {o : Oper} {a : Act} {K : Act → World → Prop} {Q : Exit → Act → World → Prop} {E : Prop} {w : World} (hgd : o.guard = none) (s x : Operand)
    (ho : o.op = .call { callee := .builtin .append, args := #[s, x], argTypes := #[t, t] }) (base : Nat) (v : Value) (n : Nat) (xs : List Value) (hs : a.eval s = v) (hown : w.ownsRow base e size v n xs)
    (u : Value) (m : Nat) (news : List Value) (hx : a.eval x = u) (hr : SR w u size m news) (hm0 : 0 < m)
    (h1 : ∀ y ∈ news, y.oneCell' = true) (h63 : n + m ≤ maxLen) (hbytes : (n + m) * bytes ≤ 140737488355328) (hbase : base ≤ w.heap.size)
    (h : ∀ v' w', w'.ownsRow base e size v' (n + m) (xs ++ news) → w.grownBy w' v.ownBlock → (v'.ownBlock = v.ownBlock ∨ v'.ownBlock = some w.heap.size) → K (a.put o.dst v') w') :
    if Region.wanted o (yielded ops a.tmps) = true then Oper.wp P o a w K Q else E := by
  have hw : Region.wanted o (yielded ops a.tmps) = true := by simp [Region.wanted, hgd]
  rw [if_pos hw]
  obtain ⟨v', w', hrun, h2, h3, h4⟩ := run_app2 (P := P) (ty := o.type) ht hi hz hsize hby hzs hsz w base v n xs hown u m news hr hm0 h1 h63 hbytes hbase
  unfold Oper.wp execOp
  simp only [ho, resolve, invoke, builtin, Sem.run_bind, Sem.run_pure, Result.andThen_ok, List.map_toArray, List.map_cons, List.map_nil, hs, hx, hrun]
  exact h v' w' h2 h3 h4
end
/-- an entry, and where its lists lie -/
structure EN where
  t : Int
  x : Int
  c : CF
  a1 : Option Addr
  q1 : Nat
  a2 : Option Addr
  q2 : Nat
def EN.cells (e : EN) : List Value := [.int .i64 e.t, .int .i64 e.x, .int .i64 e.c.e, .int .i64 e.c.b, .int .i64 e.c.k, .slice e.a1 e.c.M.length e.q1, .slice e.a2 e.c.C.length e.q2]
def enCells (es : List EN) : List Value := es.flatMap EN.cells
theorem enCells_append (a b : List EN) : enCells a ++ enCells b = enCells (a ++ b) := by simp [enCells]
theorem enCells_one (l : List EN) : ∀ y ∈ enCells l, y.oneCell' = true := by
  intro y hy
  simp only [enCells, List.mem_flatMap, EN.cells] at hy
  obtain ⟨x, _, hx⟩ := hy
  simp at hx
  rcases hx with rfl | rfl | rfl | rfl | rfl | rfl | rfl <;> rfl
theorem enCells_get : ∀ (l : List EN) (j : Nat) (e : EN), l[j]? = some e → ∀ k v, e.cells[k]? = some v → k < 7 → (enCells l)[j * 7 + k]? = some v
  | [], j, t, h, _, _, _, _ => by simp at h
  | x :: r, 0, t, h, k, v, hv, hk => by
    simp at h
    subst h
    simp only [enCells, List.flatMap_cons]
    rw [List.getElem?_append_left (by simp [EN.cells]; omega)]
    simpa using hv
  | x :: r, j + 1, t, h, k, v, hv, hk => by
    simp only [enCells, List.flatMap_cons]
    rw [List.getElem?_append_right (by simp [EN.cells]; omega)]
    have := enCells_get r j t (by simpa using h) k v hv hk
    simp only [enCells] at this
    rw [← this]
    congr 1
    simp [EN.cells]
    omega
theorem owns_form3 {w : World} {base size n : Nat} {e : TypeId} {v : Value} {xs : List Value} (h : w.ownsRow base e size v n xs) : ∃ a c, v = .slice a n c := by
  rcases h.2 with ⟨rfl, rfl⟩ | ⟨g, cap, _, rfl, _⟩
  · exact ⟨none, 0, rfl⟩
  · exact ⟨_, cap, rfl⟩
theorem row_otherE {w : World} {base p size n : Nat} {e : TypeId} {v : Value} {xs : List Value} {A : Array Value} {t : TypeId} (h : w.ownsRow base e size v n xs) (hp : w.heap[p]? = some (.cells A t)) (ht : e ≠ t) : v.ownBlock ≠ some p := by
  rcases h.2 with ⟨rfl, rfl⟩ | ⟨g, cap, cur, rfl, hb, hg, r⟩
  · exact fun e => by cases e
  · intro e
    injection e with e
    simp only at e
    subst e
    rw [hg] at hp
    injection hp with hp
    injection hp with _ h2
    exact ht h2
/-- what a further entry leaves -/
structure LKept (w w' : World) (N g : Nat) (v v' : Value) : Prop where
  below : Below N w w'
  size : w.heap.size ≤ w'.heap.size
  block : ∀ k, k < w.heap.size → k ≠ g → some k ≠ v.ownBlock → w'.heap[k]? = w.heap[k]?
  new : v'.ownBlock = v.ownBlock ∨ ∀ k, v'.ownBlock = some k → w.heap.size ≤ k
theorem LKept.drewN {w w' : World} {N g : Nat} {v v' : Value} (h : LKept w w' N g v v') (q : Nat) : LKept w (w'.drewN q) N g v v' := ⟨below_drewN' h.below q, h.size, h.block, h.new⟩
theorem drewN_moreR (w : World) (a b : Nat) : (w.drewN a).drewN b = w.drewN (a + b) := by unfold World.drewN; simp [Nat.add_assoc]
theorem own_typeN {w : World} {base n size b : Nat} {e : TypeId} {v : Value} {xs : List Value} (h : w.ownsRow base e size v n xs) (q : v.ownBlock = some b) : ∃ c, w.heap[b]? = some (.cells c e) := by
  rcases h.2 with ⟨rfl, rfl⟩ | ⟨g, cap, cur, rfl, hb, hg, r⟩
  · cases q
  · simp [Value.ownBlock] at q
    subst q
    exact ⟨_, hg⟩
theorem own_moveN {w w' : World} {base n size : Nat} {e : TypeId} {v : Value} {xs : List Value} (h : w.ownsRow base e size v n xs) (hk : ∀ b, v.ownBlock = some b → w'.heap[b]? = w.heap[b]?) : w'.ownsRow base e size v n xs := by
  refine ⟨h.1, ?_⟩
  rcases h.2 with q | ⟨g, cap, cur, rfl, hg, hc, r⟩
  · exact .inl q
  · exact .inr ⟨g, cap, cur, rfl, hg, (hk g rfl).trans hc, r⟩
/-- an entry's lists lie in rows of their own from so far on -/
def EN.own (e : EN) (N : Nat) (w : World) : Prop := CFO e.c N w (.slice e.a1 e.c.M.length e.q1) (.slice e.a2 e.c.C.length e.q2)
def EN.at_ (e : EN) (w : World) : Prop := CFat e.c w (.slice e.a1 e.c.M.length e.q1) (.slice e.a2 e.c.C.length e.q2)
theorem EN.own.move {e : EN} {N : Nat} {w w' : World} (h : e.own N w) (hk : ∀ (b : Nat) (c : Array Value), w.heap[b]? = some (.cells c 3) → w'.heap[b]? = w.heap[b]?) : e.own N w' :=
  ⟨own_moveN h.1 fun b q => by obtain ⟨c, hc⟩ := own_typeN h.1 q; exact hk b c hc, own_moveN h.2 fun b q => by obtain ⟨c, hc⟩ := own_typeN h.2 q; exact hk b c hc⟩
/-- a log of such entries behind no place -/
structure LogE (w : World) (N g : Nat) (v : Value) (es : List EN) : Prop where
  low : N ≤ g
  obj : w.heap[g]? = some (.cells #[.int .i64 0, .int .i64 0, v] 152)
  row : w.ownsRow N 52 7 v es.length (enCells es)
  lists : ∀ e ∈ es, e.own N w
theorem LogE.below {w w' : World} {N g : Nat} {v : Value} {ts : List EN} (h : LogE w N g v ts) (hb : Below w.heap.size w w') : LogE w' N g v ts := ⟨h.low, below_at hb (lt_heap h.obj) h.obj, owns_below h.row hb, fun e he => CFO.below (h.lists e he) hb⟩
theorem LogE.drewN {w : World} {N g : Nat} {v : Value} {ts : List EN} (h : LogE w N g v ts) (q : Nat) : LogE (w.drewN q) N g v ts := h.below (below_drewN' (Below.refl _ _) q)
theorem LogE.form {w : World} {N g : Nat} {v : Value} {ts : List EN} (h : LogE w N g v ts) : ∃ a c, v = .slice a ts.length c := by
  rcases h.row.2 with ⟨rfl, h0⟩ | ⟨g, cap, _, rfl, _⟩
  · exact ⟨none, 0, by rw [h0]⟩
  · exact ⟨_, cap, rfl⟩
theorem LogE.cells {w : World} {N g : Nat} {v : Value} {ts : List EN} (h : LogE w N g v ts) : w.cell? ⟨g, 0, none⟩ = some (.int .i64 0) ∧ w.cell? ⟨g, 1, none⟩ = some (.int .i64 0) ∧ w.cell? ⟨g, 2, none⟩ = some v ∧ w.frozen? ⟨g, 2, none⟩ = false :=
  ⟨cell_atD h.obj 0 rfl, cell_atD h.obj 1 rfl, cell_atD h.obj 2 rfl, by have := h.obj; simp [World.frozen?, this]⟩
theorem LogE.le {w : World} {N g : Nat} {v : Value} {ts : List EN} (h : LogE w N g v ts) : N ≤ w.heap.size := Nat.le_trans h.low (Nat.le_of_lt (lt_heap h.obj))
theorem rlenE (w : World) (N g : Nat) (v : Value) (ts : List EN) (h : LogE w N g v ts) (hl : ts.length ≤ 1000) : Calls Try.prog 49 #[.pointer (some ⟨g, 0, none⟩)] w fun e w' => e = .returned (.int .i64 ts.length) ∧ ∃ q, w' = w.drewN q := by
  obtain ⟨c0, c1, c2, -⟩ := h.cells
  obtain ⟨a, c, rfl⟩ := h.form
  clear h
  generalize ts.length = n at *
  go_enter Try.func49, Try.ntmps49
  go_wp2_with fail
  go_quiet (fail)
  go_wp2_with fail
  go_ret
  exact ⟨by simp, _, rfl⟩
theorem logE_put {w w2 : World} {N g : Nat} {v v2 : Value} {ts : List EN} {o : Obj} {t : EN} (h : LogE w N g v ts) (ht : t.own N w) (own2 : w2.ownsRow N 52 7 v2 (ts.length + 1) (enCells ts ++ enCells [t])) (hg : (w.alloc o).grownBy w2 v.ownBlock) (hn : v2.ownBlock = v.ownBlock ∨ v2.ownBlock = some (w.alloc o).heap.size) :
    w2.heap[g]? = some (.cells #[.int .i64 0, .int .i64 0, v] 152) ∧ LogE (w2.setCell ⟨g, 2, none⟩ v2) N g v2 (ts ++ [t]) ∧ LKept w (w2.setCell ⟨g, 2, none⟩ v2) N g v v2 := by
  have hvo := row_otherE h.row h.obj (by decide)
  have hlt := lt_heap h.obj
  have hg0 : w.grownBy w2 v.ownBlock := ⟨hg.os, hg.tape, hg.output, Nat.le_trans (by simp) hg.size, fun k hk hne => (hg.block k (by simp; omega) hne).trans (Below.heap_alloc _ _ _ hk)⟩
  have hobj2 : w2.heap[g]? = some (.cells #[.int .i64 0, .int .i64 0, v] 152) := (hg0.block g hlt (fun e => hvo e.symm)).trans h.obj
  have v2o := row_otherE own2 hobj2 (by decide)
  have hset : ∀ k, k ≠ g → (w2.setCell ⟨g, 2, none⟩ v2).heap[k]? = w2.heap[k]? := fun k hk => heap_setCell_other _ _ _ _ hk
  have hgp : w2.grownBy (w2.setCell ⟨g, 2, none⟩ v2) (some g) := ⟨rfl, rfl, rfl, by simp, fun k _ hk => hset k (fun e => hk (by rw [e]))⟩
  have hmv : ∀ (b : Nat) (c : Array Value), w.heap[b]? = some (.cells c 3) → (w2.setCell ⟨g, 2, none⟩ v2).heap[b]? = w.heap[b]? := by
    intro b c hb
    have n1 : b ≠ g := by
      rintro rfl
      rw [h.obj] at hb
      injection hb with hb
      injection hb with _ h2
      exact absurd h2 (by decide)
    refine (hset b n1).trans (hg0.block b (lt_heap hb) fun e => ?_)
    obtain ⟨c2, hc2⟩ := own_typeN h.row e.symm
    rw [hb] at hc2
    injection hc2 with hc2
    injection hc2 with _ h2
    exact absurd h2 (by decide)
  refine ⟨hobj2, ⟨h.low, (heap_setCell_same _ _ _ _ _ _ hobj2).trans rfl, ?_, ?_⟩, ⟨?_, ?_, ?_, ?_⟩⟩
  · have := own2.kept hgp (.inr v2o)
    rw [List.length_append, ← enCells_append]
    exact this
  · intro e he
    rcases List.mem_append.1 he with q | q
    · exact EN.own.move (h.lists e q) hmv
    · rw [List.mem_singleton.1 q]
      exact EN.own.move ht hmv
  · exact ((Below.refl N w).grown hg0 h.le (fun k e => (h.row.lt k e).1)).setCell (p := ⟨g, 2, none⟩) h.low _
  · simpa [World.setCell] using hg0.size
  · exact fun k hk hkg hkv => (hset k hkg).trans (hg0.block k hk hkv)
  · rcases hn with hn | hn
    · exact .inl hn
    · right
      intro k e
      rw [hn] at e
      cases e
      simp
theorem einfoN : (Try.prog.info? 52).map (fun i => (i.zero, i.size, i.bytes)) = some (some (.agg #[.int .i64 0, .int .i64 0, .int .i64 0, .int .i64 0, .int .i64 0, .slice none 0 0, .slice none 0 0]), 7, 88) := by kernel_rfl
/-- a block of another type, behind the log's object and rows -/
theorem LogE.only2 {w w' : World} {N g y : Nat} {v : Value} {ts : List EN} (h : LogE w N g v ts) (ho : Only y w w') (h1 : y ≠ g) (h2 : ∀ b, (v.ownBlock = some b ∨ ∃ e ∈ ts, (Value.slice e.a1 e.c.M.length e.q1).ownBlock = some b ∨ (Value.slice e.a2 e.c.C.length e.q2).ownBlock = some b) → b ≠ y) : LogE w' N g v ts :=
  ⟨h.low, (ho.block g (lt_heap h.obj) (Ne.symm h1)).trans h.obj, own_moveN h.row fun b q => by obtain ⟨c, hc⟩ := own_typeN h.row q; exact ho.block b (lt_heap hc) (h2 b (.inl q)),
   fun e he => ⟨own_moveN (h.lists e he).1 fun b q => by obtain ⟨c, hc⟩ := own_typeN (h.lists e he).1 q; exact ho.block b (lt_heap hc) (h2 b (.inr ⟨e, he, .inl q⟩)), own_moveN (h.lists e he).2 fun b q => by obtain ⟨c, hc⟩ := own_typeN (h.lists e he).2 q; exact ho.block b (lt_heap hc) (h2 b (.inr ⟨e, he, .inr q⟩))⟩⟩
theorem LogE.lts {w : World} {N g : Nat} {v : Value} {ts : List EN} (h : LogE w N g v ts) : ∀ b, (v.ownBlock = some b ∨ ∃ e ∈ ts, (Value.slice e.a1 e.c.M.length e.q1).ownBlock = some b ∨ (Value.slice e.a2 e.c.C.length e.q2).ownBlock = some b) → b < w.heap.size := by
  rintro b (q | ⟨e, he, q | q⟩)
  · obtain ⟨c, hc⟩ := own_typeN h.row q; exact lt_heap hc
  · obtain ⟨c, hc⟩ := own_typeN (h.lists e he).1 q; exact lt_heap hc
  · obtain ⟨c, hc⟩ := own_typeN (h.lists e he).2 q; exact lt_heap hc
set_option maxHeartbeats 6400000 in
set_option maxRecDepth 100000 in
theorem raddE (e : EN) (w : World) (ha : e.at_ w) (hs : short e.c) (hm : mayE e.t e.x e.c = true) (N g : Nat) (v : Value) (ts : List EN) (h : LogE w N g v ts) (hl : ts.length < 300) :
    Calls Try.prog 46 #[.pointer (some ⟨g, 0, none⟩), .agg #[.int .i64 e.t, .int .i64 e.x, .int .i64 e.c.e, .int .i64 e.c.b, .int .i64 e.c.k, .slice e.a1 e.c.M.length e.q1, .slice e.a2 e.c.C.length e.q2]] w fun ev w' => ev = .returned (.tuple #[.int .i64 ((ts.length : Int) + 1), .bool true]) ∧ ∃ b1 p1 b2 p2 v', LogE w' N g v' (ts ++ [⟨e.t, e.x, e.c, b1, p1, b2, p2⟩]) ∧ LKept w w' N g v v' := by
  obtain ⟨i0, hi, hz0, hz1, hz2⟩ := info_parts einfoN
  obtain ⟨av, cv, rfl⟩ := h.form
  obtain ⟨n, hn⟩ : ∃ n, ts.length = n := ⟨_, rfl⟩
  rw [hn] at h hl
  rw [hn]
  have hb := (Below.refl w.heap.size w).alloc (Nat.le_refl _) (.cells #[.int .i64 e.t, .int .i64 e.x, .int .i64 e.c.e, .int .i64 e.c.b, .int .i64 e.c.k, .slice e.a1 e.c.M.length e.q1, .slice e.a2 e.c.C.length e.q2] 52)
  have hx := heap_alloc_self w (.cells #[.int .i64 e.t, .int .i64 e.x, .int .i64 e.c.e, .int .i64 e.c.b, .int .i64 e.c.k, .slice e.a1 e.c.M.length e.q1, .slice e.a2 e.c.C.length e.q2] 52)
  have h1 := h.below hb
  have ha1 := CFat.below ha hb
  have HU := Lib.hid (And.intro (lt_heap h.obj) h.lts)
  have HW := Lib.hid (And.intro h.le (fun (x y : World) (v' : Value) (hb : Below w.heap.size w x) (hk : LKept x y N g (.slice av n cv) v') => (show LKept w y N g (.slice av n cv) v' from ⟨(hb.mono h.le).trans hk.below, Nat.le_trans hb.size hk.size, fun k hlt h2 h3 => (hk.block k (Nat.lt_of_lt_of_le hlt hb.size) h2 h3).trans (hb.block k hlt), hk.new.imp id fun f k e => Nat.le_trans hb.size (f k e)⟩)))
  clear h ha
  go_enter Try.func46, Try.ntmps46
  go_upto_region 1 with fail
  generalize w.alloc (.cells #[.int .i64 e.t, .int .i64 e.x, .int .i64 e.c.e, .int .i64 e.c.b, .int .i64 e.c.k, .slice e.a1 e.c.M.length e.q1, .slice e.a2 e.c.C.length e.q2] 52) = w1 at *
  have d0 := cell_atD hx 0 (v := .int .i64 e.t) rfl
  have d1 := cell_atD hx 1 (v := .int .i64 e.x) rfl
  have d2 := cell_atD hx 2 (v := .int .i64 e.c.e) rfl
  have d3 := cell_atD hx 3 (v := .int .i64 e.c.b) rfl
  have d4 := cell_atD hx 4 (v := .int .i64 e.c.k) rfl
  have d5 := cell_atD hx 5 (v := .slice e.a1 e.c.M.length e.q1) rfl
  have d6 := cell_atD hx 6 (v := .slice e.a2 e.c.C.length e.q2) rfl
  obtain ⟨g0, g1, g2, gf⟩ := h1.cells
  have ce := emayE e.t e.x e.c e.a1 e.a2 e.q1 e.q2 w1 ha1
  rw [hm] at ce
  have HX := Lib.hid (And.intro hx (And.intro hb (And.intro h1 ha1)))
  have HN := Lib.hid hn
  have HM := Lib.hid hm
  clear hx hb h1 ha1 hn hm
  go_wp2_with fail
  refine Calls.mono ce ?_
  rintro ev w2 ⟨rfl, h2⟩
  have hx := below_at h2 (lt_heap HX.out.1) HX.out.1
  have hb := HX.out.2.1.trans (h2.mono HX.out.2.1.size)
  have h3 := HX.out.2.2.1.below h2
  have ha := CFat.below HX.out.2.2.2 h2
  clear d0 d1 d2 d3 d4 d5 d6 h2 HX g0 g1 g2 gf ce
  have d0 := cell_atD hx 0 (v := .int .i64 e.t) rfl
  have d1 := cell_atD hx 1 (v := .int .i64 e.x) rfl
  have d2 := cell_atD hx 2 (v := .int .i64 e.c.e) rfl
  have d3 := cell_atD hx 3 (v := .int .i64 e.c.b) rfl
  have d4 := cell_atD hx 4 (v := .int .i64 e.c.k) rfl
  have d5 := cell_atD hx 5 (v := .slice e.a1 e.c.M.length e.q1) rfl
  have d6 := cell_atD hx 6 (v := .slice e.a2 e.c.C.length e.q2) rfl
  obtain ⟨g0, g1, g2, gf⟩ := h3.cells
  have co := ocmd e.x e.c e.a1 e.a2 e.q1 e.q2 w2 ha hs
  have HX := Lib.hid (And.intro hx (And.intro hb (And.intro h3 ha)))
  have hzs : w.heap.size + 1 ≤ w2.heap.size := by have := lt_heap hx; omega
  clear hx hb h3 ha
  go_wp2_with fail
  refine Calls.mono co ?_
  rintro ev w3 ⟨b1, p1, b2, p2, rfl, ho, h2⟩
  replace ho := CFO.base ho hzs
  have hx := below_at h2 (lt_heap HX.out.1) HX.out.1
  have hb := HX.out.2.1.trans (h2.mono HX.out.2.1.size)
  have h3 := HX.out.2.2.1.below h2
  have ha := CFat.below HX.out.2.2.2 h2
  have hzs3 : w.heap.size + 1 ≤ w3.heap.size := Nat.le_trans hzs h2.size
  clear d0 d1 d2 d3 d4 d5 d6 h2 HX g0 g1 g2 gf co hzs ha
  have d0 := cell_atD hx 0 (v := .int .i64 e.t) rfl
  have d1 := cell_atD hx 1 (v := .int .i64 e.x) rfl
  have d2 := cell_atD hx 2 (v := .int .i64 e.c.e) rfl
  have d3 := cell_atD hx 3 (v := .int .i64 e.c.b) rfl
  have d4 := cell_atD hx 4 (v := .int .i64 e.c.k) rfl
  have d5 := cell_atD hx 5 (v := .slice e.a1 e.c.M.length e.q1) rfl
  have d6 := cell_atD hx 6 (v := .slice e.a2 e.c.C.length e.q2) rfl
  have fz : ∀ i, w3.frozen? ⟨w.heap.size, i, none⟩ = false := fun i => by simp [World.frozen?, hx]
  have k1 : (w3.setCell ⟨w.heap.size, 1, none⟩ (.int .i64 e.x)).heap[w.heap.size]? = some (.cells #[.int .i64 e.t, .int .i64 e.x, .int .i64 e.c.e, .int .i64 e.c.b, .int .i64 e.c.k, .slice e.a1 e.c.M.length e.q1, .slice e.a2 e.c.C.length e.q2] 52) := heap_set_self hx 1 _
  have k2 : ((w3.setCell ⟨w.heap.size, 1, none⟩ (.int .i64 e.x)).setCell ⟨w.heap.size, 2, none⟩ (.int .i64 e.c.e)).heap[w.heap.size]? = some (.cells #[.int .i64 e.t, .int .i64 e.x, .int .i64 e.c.e, .int .i64 e.c.b, .int .i64 e.c.k, .slice e.a1 e.c.M.length e.q1, .slice e.a2 e.c.C.length e.q2] 52) := heap_set_self k1 2 _
  have k3 : (((w3.setCell ⟨w.heap.size, 1, none⟩ (.int .i64 e.x)).setCell ⟨w.heap.size, 2, none⟩ (.int .i64 e.c.e)).setCell ⟨w.heap.size, 3, none⟩ (.int .i64 e.c.b)).heap[w.heap.size]? = some (.cells #[.int .i64 e.t, .int .i64 e.x, .int .i64 e.c.e, .int .i64 e.c.b, .int .i64 e.c.k, .slice e.a1 e.c.M.length e.q1, .slice e.a2 e.c.C.length e.q2] 52) := heap_set_self k2 3 _
  have k4 : ((((w3.setCell ⟨w.heap.size, 1, none⟩ (.int .i64 e.x)).setCell ⟨w.heap.size, 2, none⟩ (.int .i64 e.c.e)).setCell ⟨w.heap.size, 3, none⟩ (.int .i64 e.c.b)).setCell ⟨w.heap.size, 4, none⟩ (.int .i64 e.c.k)).heap[w.heap.size]? = some (.cells #[.int .i64 e.t, .int .i64 e.x, .int .i64 e.c.e, .int .i64 e.c.b, .int .i64 e.c.k, .slice e.a1 e.c.M.length e.q1, .slice e.a2 e.c.C.length e.q2] 52) := heap_set_self k3 4 _
  have k5 : (((((w3.setCell ⟨w.heap.size, 1, none⟩ (.int .i64 e.x)).setCell ⟨w.heap.size, 2, none⟩ (.int .i64 e.c.e)).setCell ⟨w.heap.size, 3, none⟩ (.int .i64 e.c.b)).setCell ⟨w.heap.size, 4, none⟩ (.int .i64 e.c.k)).setCell ⟨w.heap.size, 5, none⟩ (.slice b1 e.c.M.length p1)).heap[w.heap.size]? = some (.cells #[.int .i64 e.t, .int .i64 e.x, .int .i64 e.c.e, .int .i64 e.c.b, .int .i64 e.c.k, .slice b1 e.c.M.length p1, .slice e.a2 e.c.C.length e.q2] 52) := heap_set_self k4 5 _
  have k6 : ((((((w3.setCell ⟨w.heap.size, 1, none⟩ (.int .i64 e.x)).setCell ⟨w.heap.size, 2, none⟩ (.int .i64 e.c.e)).setCell ⟨w.heap.size, 3, none⟩ (.int .i64 e.c.b)).setCell ⟨w.heap.size, 4, none⟩ (.int .i64 e.c.k)).setCell ⟨w.heap.size, 5, none⟩ (.slice b1 e.c.M.length p1)).setCell ⟨w.heap.size, 6, none⟩ (.slice b2 e.c.C.length p2)).heap[w.heap.size]? = some (.cells #[.int .i64 e.t, .int .i64 e.x, .int .i64 e.c.e, .int .i64 e.c.b, .int .i64 e.c.k, .slice b1 e.c.M.length p1, .slice b2 e.c.C.length p2] 52) := heap_set_self k5 6 _
  have kI := Lib.hid k6
  have kO := Lib.hid (show Only (w.heap.size) w3 ((((((w3.setCell ⟨w.heap.size, 1, none⟩ (.int .i64 e.x)).setCell ⟨w.heap.size, 2, none⟩ (.int .i64 e.c.e)).setCell ⟨w.heap.size, 3, none⟩ (.int .i64 e.c.b)).setCell ⟨w.heap.size, 4, none⟩ (.int .i64 e.c.k)).setCell ⟨w.heap.size, 5, none⟩ (.slice b1 e.c.M.length p1)).setCell ⟨w.heap.size, 6, none⟩ (.slice b2 e.c.C.length p2)) from (((((((Only.refl _ _).set 1 _).set 2 _).set 3 _).set 4 _).set 5 _).set 6 _))
  clear k1 k2 k3 k4 k5 k6
  have hobj := h3.obj
  have hgl := h3.low
  have HX := Lib.hid (And.intro hb (And.intro h3 (And.intro ho hzs3)))
  clear hx hb h3 ho hzs3 hobj hgl
  go_upto_region 4 with fail
  generalize ((((((w3.setCell ⟨w.heap.size, 1, none⟩ (.int .i64 e.x)).setCell ⟨w.heap.size, 2, none⟩ (.int .i64 e.c.e)).setCell ⟨w.heap.size, 3, none⟩ (.int .i64 e.c.b)).setCell ⟨w.heap.size, 4, none⟩ (.int .i64 e.c.k)).setCell ⟨w.heap.size, 5, none⟩ (.slice b1 e.c.M.length p1)).setCell ⟨w.heap.size, 6, none⟩ (.slice b2 e.c.C.length p2)) = w4 at *
  clear fz d0 d1 d2 d3 d4 d5 d6
  obtain ⟨hb, h3, ho, hzs3⟩ := HX.out
  clear HX
  have hx := kI.out
  have h4 : LogE w4 N g (.slice av n cv) ts := h3.only2 kO.out (by have := HU.out.1; omega) (fun b hb => by have := HU.out.2 b hb; omega)
  have ho4 : CFO e.c (w.heap.size + 1) w4 (.slice b1 e.c.M.length p1) (.slice b2 e.c.C.length p2) := ho.only kO.out (by omega)
  have hb4 : Below w.heap.size w w4 := hb.trans (kO.out.below (B := w.heap.size) (by omega) hb.size)
  clear hb h3 ho kI kO hzs3
  have d0 := cell_atD hx 0 (v := .int .i64 e.t) rfl
  have d1 := cell_atD hx 1 (v := .int .i64 e.x) rfl
  have d2 := cell_atD hx 2 (v := .int .i64 e.c.e) rfl
  have d3 := cell_atD hx 3 (v := .int .i64 e.c.b) rfl
  have d4 := cell_atD hx 4 (v := .int .i64 e.c.k) rfl
  have d5 := cell_atD hx 5 (v := .slice b1 e.c.M.length p1) rfl
  have d6 := cell_atD hx 6 (v := .slice b2 e.c.C.length p2) rfl
  obtain ⟨g0, g1, g2, gf⟩ := h4.cells
  have hle := h4.le
  have hlt3 : w.heap.size ≤ w4.heap.size := hb4.size
  have hee : EN.own ⟨e.t, e.x, e.c, b1, p1, b2, p2⟩ N w4 := CFO.base ho4 (Nat.le_trans HW.out.1 (Nat.le_succ _))
  have HL := Lib.hid h4
  have HE := Lib.hid hee
  have HB4 := Lib.hid hb4
  have ho7 := HL.out.row
  rw [HN.out] at ho7
  have HO7 := Lib.hid ho7
  have gza : (w4.alloc (.cells #[.int .i64 e.t, .int .i64 e.x, .int .i64 e.c.e, .int .i64 e.c.b, .int .i64 e.c.k, .slice b1 e.c.M.length p1, .slice b2 e.c.C.length p2] 52)).cell? ⟨g, 2, none⟩ = some (.slice av n cv) := (World.cell?_alloc_lt w4 _ ⟨g, 2, none⟩ (lt_heap HL.out.obj)).trans g2
  have HLD := Lib.hid (HL.out.below (below_drew' (Below.refl _ _)))
  have HED := Lib.hid (CFO.below HE.out (below_drew' (Below.refl _ _)))
  clear ho7 h4 hee hb4 hx ho4
  go_region_law (first | (refine step_app2 Try.underlying63 hi hz0 hz1 hz2 rfl (by decide) rfl (.tmp 29) (.tmp 31) rfl N _ n (enCells ts) rfl ((owns_below HO7.out (Below.drew (Below.refl _ _))).alloc _) _ 1 (enCells [⟨e.t, e.x, e.c, b1, p1, b2, p2⟩]) rfl (SR.lit _ _ #[.int .i64 e.t, .int .i64 e.x, .int .i64 e.c.e, .int .i64 e.c.b, .int .i64 e.c.k, .slice b1 e.c.M.length p1, .slice b2 e.c.C.length p2] 7 1 (by decide) rfl) (by decide) (enCells_one _) (by unfold maxLen; omega) (by omega) (by simp; omega) ?_; intro v2 w5 own2 hg2 hn2; obtain ⟨a2, c2, rfl⟩ := owns_form3 own2; have LP := logE_put (v2 := .slice a2 (n + 1) c2) HLD.out HED.out (by rw [HN.out]; exact own2) hg2 hn2; have y2 := cell_atD LP.1 2 (v := .slice av n cv) rfl; have f2 : w5.frozen? ⟨g, 2, none⟩ = false := (by have := LP.1; simp [World.frozen?, this]); have HLP := Lib.hid LP; clear LP own2 hg2 hn2))
  all_goals
    have HF := Lib.hid (HW.out.2 _ _ _ (below_drew' HB4.out) HLP.out.2.2)
    have hL5 := HLP.out.2.1
    have hln : (ts ++ [(⟨e.t, e.x, e.c, b1, p1, b2, p2⟩ : EN)]).length = n + 1 := by rw [List.length_append, HN.out]; rfl
    clear y2 f2 HLP HLD HED gza HO7 HL HE d0 d1 d2 d3 d4 d5 d6 g0 g1 g2 gf
    generalize w5.setCell ⟨g, 2, none⟩ (.slice a2 (n + 1) c2) = W5 at *
    have cl := rlenE W5 N g _ _ hL5 (by rw [hln]; omega)
    rw [hln] at cl
    have HL5 := Lib.hid hL5
    clear hL5 hln
    go_wp2_with fail
    refine Calls.mono cl ?_
    rintro ev w6 ⟨rfl, q, rfl⟩
    go_wp2_with fail
    go_returns
    exact ⟨by simp, _, _, _, _, _, HL5.out.drewN q, HF.out.drewN q⟩
end Go.Proofs.Ytlhjgpedmnjbpaa
