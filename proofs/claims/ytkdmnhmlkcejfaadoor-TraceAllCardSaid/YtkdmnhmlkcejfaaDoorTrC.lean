/-
  trace.Put, and the law's own put: an act's bytes as a frame.
-/
import Derived.Test.YtkdmnhmlkcejfaaDoorTrB
namespace Go.Proofs.YtkdmnhmlkcejfaaDoor
open Go.RowKit
set_option linter.unusedVariables false
set_option linter.unusedSimpArgs false

theorem keepsT_start {N : Nat} {w : World} (h : N ≤ w.heap.size) : N ≤ w.drew.heap.size ∧ Below N w w.drew ∧ ∀ b o, b < N → w.drew.cell? ⟨b, o, none⟩ = w.cell? ⟨b, o, none⟩ :=
  ⟨h, below_drew' (Below.refl _ _), fun _ _ _ => rfl⟩
theorem keepsT_two {N : Nat} {w w' : World} {X : Prop} (h1 : N ≤ w'.heap.size ∧ Below N w w' ∧ X) : N ≤ w'.heap.size ∧ Below N w w' := ⟨h1.1, h1.2.1⟩
theorem keepsT_allocD {N : Nat} {w w' : World} {X : Prop} {o : Obj} (h1 : N ≤ w'.drew.heap.size ∧ Below N w w'.drew ∧ X) : N ≤ (w'.alloc o).drew.heap.size ∧ Below N w (w'.alloc o).drew ∧ ∀ b k, b < N → (w'.alloc o).drew.cell? ⟨b, k, none⟩ = w.cell? ⟨b, k, none⟩ :=
  keeps_alloc (w' := w'.drew) (o := o) h1
/-- every number can be put -/
def lowT (l : List Int) : Prop := l.length ≤ 1000 ∧ ∀ x ∈ l, x ≤ 9223372036854775807
theorem lowT_len {l : List Int} (h : lowT l) : (listN l).length ≤ 10000 := by
  have h1 := putN_length l.length (by have := h.1; omega)
  have h2 := flat_len l h.2
  have h3 := h.1
  simp only [listN, List.length_append]
  omega
theorem boolB_len (b : Bool) : (boolB b).length = 1 := by cases b <;> rfl
theorem textN_len {s : List UInt8} (h : s.length ≤ 1073741824) : (textN s).length ≤ s.length + 9 := by
  have h1 := putN_length s.length (by omega)
  simp only [textN, List.length_append]
  omega
/-- what can be put -/
structure Puts (t : TA) : Prop where
  n : lowT t.nums
  m : lowT t.M
  c : lowT t.C
  d : t.D.length ≤ 100000
  s : t.S.length ≤ 100000
theorem Puts.of_may {t : TA} (h : MayT t) : Puts t := by
  obtain ⟨h1, ⟨m1, m2⟩, ⟨c1, c2⟩, h4⟩ := h
  exact ⟨⟨by simp [TA.nums], fun x hx => by have := h1 x hx; omega⟩, ⟨by omega, fun x hx => by have := m2 x hx; omega⟩, ⟨by omega, fun x hx => by have := c2 x hx; omega⟩, by omega, by omega⟩
theorem tlistC (l : List Int) (hl : lowT l) (v : Value) (N : Nat) (w : World) (hW : N ≤ w.heap.size) (h : Ints w v l) : Calls Tryd.prog 65 #[v] w fun e w' => e = .returned (.string ⟨(listN l).toArray⟩) ∧ Stays N w w' := by
  refine (list_any v l w h hl.1 hl.2).mono ?_
  rintro ev w' ⟨rfl, hb⟩
  exact ⟨rfl, stays_of hW hb⟩
theorem rlistC (l : List Int) (hl : lowT l) (v : Value) (N : Nat) (w : World) (hW : N ≤ w.heap.size) (h : Ints w v l) : Calls Tryd.prog 35 #[v] w fun e w' => e = .returned (.string ⟨(listN l).toArray⟩) ∧ Stays N w w' := by
  refine (reflist_any v l w h hl.1 hl.2).mono ?_
  rintro ev w' ⟨rfl, hb⟩
  exact ⟨rfl, stays_of hW hb⟩
theorem ttextC (s : List UInt8) (hs : s.length ≤ 1073741824) (N : Nat) (w : World) (hW : N ≤ w.heap.size) : Calls Tryd.prog 67 #[.string ⟨s.toArray⟩] w fun e w' => e = .returned (.string ⟨(textN s).toArray⟩) ∧ Stays N w w' := by
  refine (text_any s w hs).mono ?_
  rintro ev w' ⟨rfl, hb⟩
  exact ⟨rfl, stays_of hW hb⟩
theorem rtextC (s : List UInt8) (hs : s.length ≤ 1073741824) (N : Nat) (w : World) (hW : N ≤ w.heap.size) : Calls Tryd.prog 37 #[.string ⟨s.toArray⟩] w fun e w' => e = .returned (.string ⟨(textN s).toArray⟩) ∧ Stays N w w' := by
  refine (reftext_any s w hs).mono ?_
  rintro ev w' ⟨rfl, hb⟩
  exact ⟨rfl, stays_of hW hb⟩
theorem tboolC (b : Bool) (N : Nat) (w : World) (hW : N ≤ w.heap.size) : Calls Tryd.prog 66 #[.bool b] w fun e w' => e = .returned (.string ⟨(boolB b).toArray⟩) ∧ Stays N w w' := by
  refine (bool_any b w).mono ?_
  rintro ev w' ⟨rfl, rfl⟩
  exact ⟨rfl, stays_refl hW⟩
theorem rboolC (b : Bool) (N : Nat) (w : World) (hW : N ≤ w.heap.size) : Calls Tryd.prog 36 #[.bool b] w fun e w' => e = .returned (.string ⟨(boolB b).toArray⟩) ∧ Stays N w w' := by
  refine (refbool_any b w).mono ?_
  rintro ev w' ⟨rfl, rfl⟩
  exact ⟨rfl, stays_refl hW⟩
theorem ints_seven {w : World} {t : TA} {b : Nat} {ty : TypeId} (h : w.heap[b]? = some (.cells (numsV t) ty)) : Ints w (.slice (some ⟨b, 0, none⟩) 7 7) t.nums := by
  refine ⟨_, 7, rfl, by simp [TA.nums], .inr ⟨b, 0, rfl, lt_heap h, fun j hj => ?_⟩⟩
  have hj7 : j < 7 := hj
  match j, hj7 with
  | 0, _ | 1, _ | 2, _ | 3, _ | 4, _ | 5, _ | 6, _ => simp only [World.cell?, h]; rfl
/-- an act as a frame; nothing: it can't be traced -/
def putT (t : TA) : List UInt8 := if MayT t then frameB (encT t) else []
theorem encT_left (t : TA) : listN t.nums ++ boolB t.u ++ textN t.D ++ listN t.M ++ listN t.C ++ textN t.S = encT t := by
  simp [encT]
set_option maxHeartbeats 3200000 in
set_option maxRecDepth 100000 in
theorem tput (t : TA) (vm vc : Value) (w : World) (hat : ActAt t w vm vc) (hD : t.D.length + t.S.length ≤ 9223372036854775807) (hT : Tab w) :
    Calls Tryd.prog 40 #[.agg (actC t vm vc)] w fun e w' => e = .returned (.string ⟨(putT t).toArray⟩) ∧ Below w.heap.size w w' := by
  have hx := heap_alloc_self w (.cells (actC t vm vc) 54)
  have hb : Below w.heap.size w (w.alloc (.cells (actC t vm vc) 54)) := (Below.refl _ _).alloc (Nat.le_refl _) _
  have hat1 := hat.below hb
  have hT1 := hT.below hb
  have HD := Lib.hid hD
  clear hat hT hD
  go_enter Tryd.func40, Tryd.ntmps40
  go_upto_region 1 with fail
  generalize w.alloc (.cells (actC t vm vc) 54) = w1 at *
  obtain ⟨d0, d1, d2, d3, d4, d5, d6, d7, d8, d9, d10, d11⟩ := actIn hx
  have cm := tmay t vm vc w1 hat1 HD.out
  have HX := Lib.hid (And.intro hx (And.intro hb (And.intro hat1 hT1)))
  unfold actC at cm
  clear hx hb hat1 hT1
  by_cases hm : MayT t
  · rw [decide_eq_true hm] at cm
    have HM := Lib.hid hm
    go_wp2_with fail
    refine Calls.mono cm ?_
    rintro e w2 ⟨rfl, hb2⟩
    have hx2 := below_at hb2 (lt_heap HX.out.1) HX.out.1
    have HX2 := Lib.hid (And.intro hx2 (And.intro (HX.out.2.1.trans (hb2.mono HX.out.2.1.size)) (And.intro (HX.out.2.2.1.below hb2) (HX.out.2.2.2.below hb2))))
    have cn := tnumbers t vm vc w2
    clear d0 d1 d2 d3 d4 d5 d6 d7 d8 d9 d10 d11 cm hb2 HX hm
    obtain ⟨d0, d1, d2, d3, d4, d5, d6, d7, d8, d9, d10, d11⟩ := actIn hx2
    clear hx2
    unfold actC numsV at cn
    go_wp2_with fail
    refine Calls.mono cn ?_
    rintro e w3 ⟨rfl, hb3⟩
    have hx3 := below_at hb3 (lt_heap HX2.out.1) HX2.out.1
    have HX3 := Lib.hid (And.intro hx3 (And.intro (HX2.out.2.1.trans (hb3.mono HX2.out.2.1.size)) (And.intro (HX2.out.2.2.1.below hb3) (HX2.out.2.2.2.below hb3))))
    clear d0 d1 d2 d3 d4 d5 d6 d7 d8 d9 d10 d11 cn hb3 HX2 hx3
    go_upto_region 4 with fail
    have hx4 := below_at ((Below.refl w3.heap.size w3).alloc (Nat.le_refl _) (.cells (numsV t) 104)) (lt_heap HX3.out.1) HX3.out.1
    have hb4 := (Below.refl w3.heap.size w3).alloc (Nat.le_refl _) (.cells (numsV t) 104)
    have hq4 := heap_alloc_self w3 (.cells (numsV t) 104)
    unfold numsV at hx4 hb4 hq4
    generalize w3.alloc (.cells #[.int .i64 t.W, .int .i64 t.P, .int .i64 t.A, .int .i64 t.B, .int .i64 t.aW, .int .i64 t.aA, .int .i64 t.aL] 104) = w4 at *
    have hP := Puts.of_may HM.out
    have HX4 := Lib.hid (And.intro (HX3.out.2.1.trans (hb4.mono HX3.out.2.1.size)) (And.intro (HX3.out.2.2.1.below hb4) (HX3.out.2.2.2.below hb4)))
    obtain ⟨N, hN⟩ : ∃ N, w4.heap.size = N := ⟨_, rfl⟩
    have hNW : N ≤ w4.heap.size := by omega
    have hlt : w.heap.size < N := by have := lt_heap hx4; omega
    have hlt3 : w3.heap.size < N := by have := lt_heap hq4; omega
    have cH := fun w' (h' : N ≤ w'.heap.size ∧ Below N w4 w') => tlistC t.nums hP.n _ N w' h'.1 ((ints_seven (t := t) hq4).below (by rw [hN]; exact h'.2))
    have cM := fun w' (h' : N ≤ w'.heap.size ∧ Below N w4 w') => tlistC t.M hP.m vm N w' h'.1 (HX4.out.2.1.1.below (by rw [hN]; exact h'.2))
    have cC := fun w' (h' : N ≤ w'.heap.size ∧ Below N w4 w') => tlistC t.C hP.c vc N w' h'.1 (HX4.out.2.1.2.below (by rw [hN]; exact h'.2))
    have cB := fun w' (h' : N ≤ w'.heap.size ∧ Below N w4 w') => tboolC t.u N w' h'.1
    have cD := fun w' (h' : N ≤ w'.heap.size ∧ Below N w4 w') => ttextC t.D (by have := hP.d; omega) N w' h'.1
    have cS := fun w' (h' : N ≤ w'.heap.size ∧ Below N w4 w') => ttextC t.S (by have := hP.s; omega) N w' h'.1
    have l1 := lowT_len hP.n
    have l2 := boolB_len t.u
    have l3 := textN_len (s := t.D) (by have := hP.d; omega)
    have l4 := lowT_len hP.m
    have l5 := lowT_len hP.c
    have l6 := textN_len (s := t.S) (by have := hP.s; omega)
    have lD := hP.d
    have lS := hP.s
    have he := encT_left t
    obtain ⟨d0, d1, d2, d3, d4, d5, d6, d7, d8, d9, d10, d11⟩ := actIn (t := t) (vm := vm) (vc := vc) hx4
    generalize listN t.nums = B1 at *
    generalize boolB t.u = B2 at *
    generalize textN t.D = B3 at *
    generalize listN t.M = B4 at *
    generalize listN t.C = B5 at *
    generalize textN t.S = B6 at *
    have hl1 : ¬ (9223372036854775807 < B1.length + B2.length) := by omega
    have hl2 : ¬ (9223372036854775807 < B1.length + B2.length + B3.length) := by omega
    have hl3 : ¬ (9223372036854775807 < B1.length + B2.length + B3.length + B4.length) := by omega
    have hl4 : ¬ (9223372036854775807 < B1.length + B2.length + B3.length + B4.length + B5.length) := by omega
    have hl5 : ¬ (9223372036854775807 < B1.length + B2.length + B3.length + B4.length + B5.length + B6.length) := by omega
    have cF := fun w' (h' : N ≤ w'.heap.size ∧ Below N w4 w') => (fput (B1 ++ B2 ++ B3 ++ B4 ++ B5 ++ B6) w' (by simp only [List.length_append]; omega) (HX4.out.2.2.below (by rw [hN]; exact h'.2))).mono (fun e w'' h => (And.intro h.1 (stays_of h'.1 h.2) : _ ∧ Stays N w' w''))
    simp only [← str_append] at cF
    rw [he] at cF
    have HN := Lib.hid hN
    have HP := Lib.hid (show putT t = frameB (encT t) by unfold putT; rw [if_pos HM.out])
    clear hx4 hb4 hq4 hP hN HX3 he l1 l2 l3 l4 l5 l6 lD lS
    go_region_held3 (fun w' => N ≤ w'.heap.size ∧ Below N w4 w' ∧ ∀ b o, b < N → w'.cell? ⟨b, o, none⟩ = w4.cell? ⟨b, o, none⟩) (first | with_reducible exact keepsT_allocD (by assumption) | with_reducible exact keeps_alloc (by assumption) | with_reducible exact keeps_next (by assumption) (by assumption) | exact keepsT_start hNW) (first | (go_at_call 66; (with_reducible refine Calls.mono (cB _ ?hk) ?_); (case hk => exact keepsT_two (by assumption)); rintro ev wz ⟨rfl, hzz⟩) | (go_at_call 44; (with_reducible refine Calls.mono (cF _ ?hk) ?_); (case hk => exact keepsT_two (by assumption)); rintro ev wz ⟨rfl, hzz⟩) | (go_at_call 65; (with_reducible refine Calls.mono (cH _ ?hk) ?_); (case hk => exact keepsT_two (by assumption)); rintro ev wz ⟨rfl, hzz⟩) | (go_at_call 65; (with_reducible refine Calls.mono (cM _ ?hk) ?_); (case hk => exact keepsT_two (by assumption)); rintro ev wz ⟨rfl, hzz⟩) | (go_at_call 65; (with_reducible refine Calls.mono (cC _ ?hk) ?_); (case hk => exact keepsT_two (by assumption)); rintro ev wz ⟨rfl, hzz⟩) | (go_at_call 67; (with_reducible refine Calls.mono (cD _ ?hk) ?_); (case hk => exact keepsT_two (by assumption)); rintro ev wz ⟨rfl, hzz⟩) | (go_at_call 67; (with_reducible refine Calls.mono (cS _ ?hk) ?_); (case hk => exact keepsT_two (by assumption)); rintro ev wz ⟨rfl, hzz⟩))
    rename_i hfin
    have HF := Lib.hid (HX4.out.1.trans (hfin.2.1.mono (by have := HX4.out.1.size; have := HN.out; omega)))
    clear hfin
    go_wp2_with fail
    go_ret
    exact ⟨ret_str (by rw [HP.out]), HF.out⟩
  · rw [decide_eq_false hm] at cm
    have HP := Lib.hid (show putT t = [] by unfold putT; rw [if_neg hm])
    clear hm
    go_wp2_with fail
    refine Calls.mono cm ?_
    rintro e w2 ⟨rfl, hb2⟩
    go_wp2_with fail
    go_ret
    exact ⟨by rw [HP.out]; rfl, HX.out.2.1.trans (hb2.mono HX.out.2.1.size)⟩
set_option maxHeartbeats 3200000 in
set_option maxRecDepth 100000 in
theorem lput (t : TA) (vm vc : Value) (w : World) (hat : ActAt t w vm vc) (hP : Puts t) :
    Calls Tryd.prog 18 #[.agg (actC t vm vc)] w fun e w' => e = .returned (.string ⟨(frameB (encT t)).toArray⟩) ∧ Below w.heap.size w w' := by
  have hx4 := heap_alloc_self w (.cells (actC t vm vc) 54)
  have hb : Below w.heap.size w (w.alloc (.cells (actC t vm vc) 54)) := (Below.refl _ _).alloc (Nat.le_refl _) _
  have hat1 := hat.below hb
  clear hat
  go_enter Tryd.func18, Tryd.ntmps18
  go_upto_region 1 with fail
  generalize w.alloc (.cells (actC t vm vc) 54) = w4 at *
  obtain ⟨N, hN⟩ : ∃ N, w4.heap.size = N := ⟨_, rfl⟩
  have hNW : N ≤ w4.heap.size := by omega
  have hlt : w.heap.size < N := by have := lt_heap hx4; omega
  have HX4 := Lib.hid (And.intro hb hat1)
  have cH := rlistC t.nums hP.n (.slice (some ⟨w4.heap.size, 0, none⟩) 7 7) N (w4.alloc (.cells (numsV t) 3)).drew (by simp; omega) ((ints_seven (t := t) (heap_alloc_self w4 (.cells (numsV t) 3))).below (below_drew' (Below.refl _ _)))
  have cM := fun w' (h' : N ≤ w'.heap.size ∧ Below N w4 w') => rlistC t.M hP.m vm N w' h'.1 (HX4.out.2.1.below (by rw [hN]; exact h'.2))
  have cC := fun w' (h' : N ≤ w'.heap.size ∧ Below N w4 w') => rlistC t.C hP.c vc N w' h'.1 (HX4.out.2.2.below (by rw [hN]; exact h'.2))
  have cB := fun w' (h' : N ≤ w'.heap.size ∧ Below N w4 w') => rboolC t.u N w' h'.1
  have cD := fun w' (h' : N ≤ w'.heap.size ∧ Below N w4 w') => rtextC t.D (by have := hP.d; omega) N w' h'.1
  have cS := fun w' (h' : N ≤ w'.heap.size ∧ Below N w4 w') => rtextC t.S (by have := hP.s; omega) N w' h'.1
  unfold numsV at cH
  have l1 := lowT_len hP.n
  have l2 := boolB_len t.u
  have l3 := textN_len (s := t.D) (by have := hP.d; omega)
  have l4 := lowT_len hP.m
  have l5 := lowT_len hP.c
  have l6 := textN_len (s := t.S) (by have := hP.s; omega)
  have lD := hP.d
  have lS := hP.s
  have he := encT_left t
  obtain ⟨d0, d1, d2, d3, d4, d5, d6, d7, d8, d9, d10, d11⟩ := actIn (t := t) (vm := vm) (vc := vc) hx4
  generalize listN t.nums = B1 at *
  generalize boolB t.u = B2 at *
  generalize textN t.D = B3 at *
  generalize listN t.M = B4 at *
  generalize listN t.C = B5 at *
  generalize textN t.S = B6 at *
  have hl1 : ¬ (9223372036854775807 < B1.length + B2.length) := by omega
  have hl2 : ¬ (9223372036854775807 < B1.length + B2.length + B3.length) := by omega
  have hl3 : ¬ (9223372036854775807 < B1.length + B2.length + B3.length + B4.length) := by omega
  have hl4 : ¬ (9223372036854775807 < B1.length + B2.length + B3.length + B4.length + B5.length) := by omega
  have hl5 : ¬ (9223372036854775807 < B1.length + B2.length + B3.length + B4.length + B5.length + B6.length) := by omega
  have cF := fun w' (h' : N ≤ w'.heap.size ∧ Below N w4 w') => (rput3 (B1 ++ B2 ++ B3 ++ B4 ++ B5 ++ B6) w' (by simp only [List.length_append]; omega)).mono (fun e w'' h => (And.intro h.1 (stays_of h'.1 h.2) : _ ∧ Stays N w' w''))
  simp only [← str_append] at cF
  rw [he] at cF
  have HN := Lib.hid hN
  have HP := Lib.hid (And.intro hx4 hP)
  clear hx4 hb hat1 hP hN he l1 l2 l3 l4 l5 l6 lD lS
  go_region_held3 (fun w' => N ≤ w'.heap.size ∧ Below N w4 w' ∧ ∀ b o, b < N → w'.cell? ⟨b, o, none⟩ = w4.cell? ⟨b, o, none⟩) (first | with_reducible exact keepsT_allocD (by assumption) | with_reducible exact keeps_alloc (by assumption) | with_reducible exact keeps_next (by assumption) (by assumption) | exact keepsT_start hNW) (first | (go_at_call 36; (with_reducible refine Calls.mono (cB _ ?hk) ?_); (case hk => exact keepsT_two (by assumption)); rintro ev wz ⟨rfl, hzz⟩) | (go_at_call 35; (with_reducible refine Calls.mono cH ?_); rintro ev wz ⟨rfl, hzz⟩) | (go_at_call 37; (with_reducible refine Calls.mono (cD _ ?hk) ?_); (case hk => exact keepsT_two (by assumption)); rintro ev wz ⟨rfl, hzz⟩))
  rename_i hfin
  have HF := Lib.hid hfin
  go_wp2_with fail
  go_region_held3 (fun w' => N ≤ w'.heap.size ∧ Below N w4 w' ∧ ∀ b o, b < N → w'.cell? ⟨b, o, none⟩ = w4.cell? ⟨b, o, none⟩) (first | with_reducible exact keepsT_allocD (by assumption) | with_reducible exact keeps_alloc (by assumption) | with_reducible exact keeps_next (by assumption) (by assumption) | exact ⟨HF.out.1, below_drew' HF.out.2.1, HF.out.2.2⟩) (first | (go_at_call 38; (with_reducible refine Calls.mono (cF _ ?hk) ?_); (case hk => exact keepsT_two (by assumption)); rintro ev wz ⟨rfl, hzz⟩) | (go_at_call 35; (with_reducible refine Calls.mono (cM _ ?hk) ?_); (case hk => exact keepsT_two (by assumption)); rintro ev wz ⟨rfl, hzz⟩) | (go_at_call 35; (with_reducible refine Calls.mono (cC _ ?hk) ?_); (case hk => exact keepsT_two (by assumption)); rintro ev wz ⟨rfl, hzz⟩) | (go_at_call 37; (with_reducible refine Calls.mono (cS _ ?hk) ?_); (case hk => exact keepsT_two (by assumption)); rintro ev wz ⟨rfl, hzz⟩))
  rename_i hfin2
  have HF2 := Lib.hid (HX4.out.1.trans (hfin2.2.1.mono (by have := HX4.out.1.size; have := HN.out; omega)))
  clear hfin hfin2
  go_wp2_with fail
  go_ret
  exact ⟨rfl, HF2.out⟩
end Go.Proofs.YtkdmnhmlkcejfaaDoor
