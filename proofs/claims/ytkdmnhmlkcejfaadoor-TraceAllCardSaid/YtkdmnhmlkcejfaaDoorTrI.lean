/-
  Acts that come in; a trace that is awake; the same acts.
-/
import Derived.Test.YtkdmnhmlkcejfaaDoorTrE
import Derived.Test.YtkdmnhmlkcejfaaDoorTrG
import Derived.Test.YtkdmnhmlkcejfaaDoorTrH
import Derived.Test.YtkdmnhmlkcejfaaDoorFits
import Derived.Test.YtkdmnhmlkcejfaaDoorEq
namespace Go.Proofs.YtkdmnhmlkcejfaaDoor
open Go.RowKit
set_option linter.unusedVariables false
set_option linter.unusedSimpArgs false

abbrev askSh : Sh := .two (.int .i64) (.two (.int .i64) (.two (.int .i64) (.two .str (.two .bool .unit))))
abbrev actSh : Sh := .two (.int .i64) (.two (.int .i64) (.two (.int .i64) (.two (.int .i64) (.two askSh (.two (.slice (.int .i64)) (.two (.slice (.int .i64)) (.two .str .unit)))))))
theorem fits_ints {w : World} {a : Option Addr} {len cap : Nat} (h : Fits w (.slice (.int .i64)) [.slice a len cap]) : ∃ zs : List Int, zs.length = len ∧ Ints w (.slice a len cap) zs ∧ (∀ x ∈ zs, -9223372036854775808 ≤ x ∧ x ≤ 9223372036854775807) ∧ len ≤ cap ∧ cap ≤ maxLen := by
  obtain ⟨h1, h2, h3⟩ := h.slice
  have hm : len ≤ 9223372036854775807 := by unfold maxLen at h2; omega
  rcases h3 with h3 | ⟨b, off, rfl, hb, hc⟩
  · subst h3
    exact ⟨[], rfl, ⟨a, cap, rfl, by simp, .inl rfl⟩, by simp, h1, h2⟩
  · have hz : ∀ i : Fin len, ∃ z : Int, w.cell? ⟨b, off + i.1, none⟩ = some (.int .i64 z) ∧ (Lit.int .i64 z).wf = true := by
      intro i
      obtain ⟨ys, hl, hcell, hf⟩ := hc i.1 i.2
      obtain ⟨z, rfl, hw⟩ := hf
      refine ⟨z, ?_, hw⟩
      have := hcell 0 _ rfl
      simpa [Sh.size] using this
    have hz2 := fun i => (hz i).choose_spec
    refine ⟨List.ofFn fun i => (hz i).choose, by simp, ⟨_, cap, by simp, by simp; omega, .inr ⟨b, off, rfl, hb, fun j hj => ?_⟩⟩, fun x hx => ?_, h1, h2⟩
    · have hj' : j < len := by simpa using hj
      rw [(hz2 ⟨j, hj'⟩).1]
      congr 2
      rw [List.getD_eq_getElem?_getD, List.getElem?_eq_getElem hj]
      simp
    · obtain ⟨i, rfl⟩ := (List.mem_ofFn).1 hx
      exact wf_le (hz2 i).2
theorem str_list (s : ByteArray) : ∃ l : List UInt8, s = ⟨l.toArray⟩ ∧ l.length = s.size := ⟨s.data.toList, by cases s; simp, by rw [Array.length_toList]; rfl⟩
theorem fits_act1 {w : World} {cs : List Value} (h : Fits w actSh cs) : ∃ (t : TA) (aM aC : Option Addr) (pM pC : Nat), cs = (actC t (.slice aM t.M.length pM) (.slice aC t.C.length pC)).toList ∧ WfT t ∧ ActAt t w (.slice aM t.M.length pM) (.slice aC t.C.length pC) ∧ t.C.length ≤ pC ∧ pC ≤ maxLen := by
  obtain ⟨_, _, rfl, ⟨W, rfl, k1⟩, _, _, rfl, ⟨P, rfl, k2⟩, _, _, rfl, ⟨A, rfl, k3⟩, _, _, rfl, ⟨B, rfl, k4⟩, _, _, rfl, ⟨_, _, rfl, ⟨aW, rfl, k5⟩, _, _, rfl, ⟨aA, rfl, k6⟩, _, _, rfl, ⟨aL, rfl, k7⟩, _, _, rfl, ⟨D, rfl, k8⟩, _, _, rfl, ⟨u, rfl⟩, hu⟩, _, _, rfl, hM, _, _, rfl, hC, _, _, rfl, ⟨S, rfl, k9⟩, hn⟩ := h
  obtain rfl : _ = [] := hu
  obtain rfl : _ = [] := hn
  obtain ⟨aM, nM, pM, rfl, hM'⟩ := id hM
  obtain ⟨aC, nC, pC, rfl, hC'⟩ := id hC
  obtain ⟨lM, rfl, iM, bM, -, -⟩ := fits_ints hM
  obtain ⟨lC, rfl, iC, bC, c1, c2⟩ := fits_ints hC
  obtain ⟨dl, rfl, hdl⟩ := str_list D
  obtain ⟨sl, rfl, hsl⟩ := str_list S
  refine ⟨⟨W, P, A, B, aW, aA, aL, dl, u, lM, lC, sl⟩, aM, aC, pM, pC, rfl, ⟨fun x hx => ?_, bM, bC, by show dl.length ≤ maxLen; omega, by show sl.length ≤ maxLen; omega⟩, ⟨iM, iC⟩, c1, c2⟩
  simp [TA.nums] at hx
  rcases hx with rfl | rfl | rfl | rfl | rfl | rfl | rfl
  · exact wf_le k1
  · exact wf_le k2
  · exact wf_le k3
  · exact wf_le k4
  · exact wf_le k5
  · exact wf_le k6
  · exact wf_le k7
theorem fits_act {w : World} {c : Array Value} (h : Fits w actSh c.toList) : ∃ (t : TA) (aM aC : Option Addr) (pM pC : Nat), c = actC t (.slice aM t.M.length pM) (.slice aC t.C.length pC) ∧ WfT t ∧ ActAt t w (.slice aM t.M.length pM) (.slice aC t.C.length pC) ∧ t.C.length ≤ pC ∧ pC ≤ maxLen := by
  obtain ⟨t, aM, aC, pM, pC, e, r⟩ := fits_act1 h
  exact ⟨t, aM, aC, pM, pC, Array.toList_inj.1 e, r⟩
theorem ActAt.form {t : TA} {w : World} {vm vc : Value} (h : ActAt t w vm vc) : ∃ aM pM aC pC, vm = .slice aM t.M.length pM ∧ vc = .slice aC t.C.length pC := by
  obtain ⟨aM, pM, e1⟩ : ∃ a cap, vm = .slice a t.M.length cap := by obtain ⟨a, cap, e, -⟩ := h.1; exact ⟨a, cap, e⟩
  obtain ⟨aC, pC, e2⟩ : ∃ a cap, vc = .slice a t.C.length cap := by obtain ⟨a, cap, e, -⟩ := h.2; exact ⟨a, cap, e⟩
  exact ⟨aM, pM, aC, pC, e1, e2⟩
theorem enc_len {t : TA} (h : MayT t) : (encT t).length ≤ 300 + t.D.length + t.S.length := by
  obtain ⟨h1, ⟨m1, m2⟩, ⟨c1, c2⟩, h4⟩ := h
  have l1 : (listN t.nums).length ≤ 9 + 9 * 7 := by
    have a := putN_length t.nums.length (by simp [TA.nums])
    have b := flat_len t.nums (fun x hx => by have := h1 x hx; omega)
    have e : t.nums.length = 7 := rfl
    simp only [listN, List.length_append]
    omega
  have l2 : (listN t.M).length ≤ 9 + 9 * 3 := by
    have a := putN_length t.M.length (by omega)
    have b := flat_len t.M (fun x hx => by have := m2 x hx; omega)
    simp only [listN, List.length_append]
    omega
  have l3 : (listN t.C).length ≤ 9 + 9 * 3 := by
    have a := putN_length t.C.length (by omega)
    have b := flat_len t.C (fun x hx => by have := c2 x hx; omega)
    simp only [listN, List.length_append]
    omega
  have l4 := textN_len (s := t.D) (by omega)
  have l5 := textN_len (s := t.S) (by omega)
  have l6 := boolB_len t.u
  simp only [encT, List.length_append]
  omega
/-- what was put comes back -/
theorem get_put {t : TA} (h : MayT t) : errG (frameB (encT t)) = 0 ∧ outG (frameB (encT t)) = t := by
  have hl : (encT t).length ≤ 16384 := by have := enc_len h; have := h.2.2.2; omega
  obtain ⟨h1, h2⟩ := get_back hl
  obtain ⟨h3, h4⟩ := act_back h
  refine ⟨by unfold errG; rw [if_pos h1, h2, h3], ?_⟩
  unfold outG outT
  rw [if_pos h1, h2, if_pos h3, h4]
def awT : TA := ⟨1, 5, 0, 0, 0, 0, 0, [], false, [], [1, 2], []⟩
theorem awT_may : MayT awT := by decide
set_option maxHeartbeats 3200000 in
set_option maxRecDepth 100000 in
theorem awake51 (w : World) (hT : Tab w) : Calls Tryd.prog 21 #[] w fun e w' => e = .returned (.bool true) ∧ Below w.heap.size w w' := by
  have hx := heap_alloc_self w (.cells #[.int .i64 1, .int .i64 2] 3)
  have hb := (Below.refl w.heap.size w).alloc (Nat.le_refl _) (.cells #[.int .i64 1, .int .i64 2] 3)
  have hI : Ints (w.alloc (.cells #[.int .i64 1, .int .i64 2] 3)) (.slice (some ⟨w.heap.size, 0, none⟩) 2 2) [1, 2] := ⟨_, 2, rfl, by decide, .inr ⟨w.heap.size, 0, rfl, lt_heap hx, fun j hj => by
    match j, hj with
    | 0, _ | 1, _ => simp only [World.cell?, hx]; rfl⟩⟩
  have hat : ActAt awT (w.alloc (.cells #[.int .i64 1, .int .i64 2] 3)) (.slice none 0 0) (.slice (some ⟨w.heap.size, 0, none⟩) 2 2) := ⟨⟨none, 0, rfl, by decide, .inl rfl⟩, hI⟩
  have cp := tput awT (.slice none 0 0) (.slice (some ⟨w.heap.size, 0, none⟩) 2 2) _ hat (by decide) (hT.below hb)
  have hput : putT awT = frameB (encT awT) := by unfold putT; rw [if_pos awT_may]
  rw [hput] at cp
  have HT := Lib.hid hT
  have HB := Lib.hid hb
  clear hx hb hI hat hT hput
  go_enter Tryd.func21, Tryd.ntmps21
  go_wp2_with fail
  refine Calls.mono cp ?_
  rintro e w1 ⟨rfl, hb1⟩
  have HB1 := Lib.hid (HB.out.trans (hb1.mono HB.out.size))
  obtain ⟨F, hF⟩ : ∃ F, frameB (encT awT) = F := ⟨_, rfl⟩
  have cg := tget F w1 (HT.out.below HB1.out)
  obtain ⟨g1, g2⟩ := get_put awT_may
  rw [hF] at g1 g2
  rw [g1, g2] at cg
  rw [hF]
  clear hb1 cp hF g1 g2 HB
  go_wp2_with fail
  refine Calls.mono cg ?_
  rintro e w2 ⟨⟨vm, vc, rfl, hr⟩, hb2⟩
  obtain ⟨aM, pM, hvm, -, -⟩ := (SR.owns hr.m).form
  obtain ⟨aC, pC, hvc, -, -⟩ := (SR.owns hr.c).form
  subst hvm hvc
  have hat := hr.actAt (by decide) (by decide)
  obtain ⟨a0, cap0, bb, off, hv, ha, hcell⟩ := hat.2.at_ (Below.refl _ _) (j := 1) (by decide)
  injection hv with hv1 hv2 hv3
  subst hv1
  subst ha
  have hbb : bb < w2.heap.size := by
    obtain ⟨a, cap, e, -, h0⟩ := hat.2
    rcases h0 with h0 | ⟨b, o, e2, hlt, -⟩
    · exact absurd h0 (by decide)
    · injection e with e1
      rw [← e1] at e2
      injection e2 with e2
      injection e2 with e3
      rw [e3]; exact hlt
  have hcell2 : w2.cell? ⟨bb, off + 1, none⟩ = some (.int .i64 2) := hcell
  have HB2 := Lib.hid (HB1.out.trans (hb2.mono HB1.out.size))
  have hl2 : awT.C.length = 2 := rfl
  have hl0 : awT.M.length = 0 := rfl
  rw [hl2, hl0]
  unfold actC awT
  clear hr hat hv2 hv3 hcell hb2 cg hl2 hl0
  go_wp2_with fail
  go_ret
  exact ⟨rfl, HB2.out.alloc HB2.out.size _⟩
set_option maxHeartbeats 6400000 in
set_option maxRecDepth 100000 in
theorem lsame (t : TA) (vm vc um uc : Value) (w : World) (h1 : ActAt t w vm vc) (h2 : ActAt t w um uc) (hm : MayT t) :
    Calls Tryd.prog 22 #[.agg (actC t vm vc), .agg (actC t um uc)] w fun e w' => e = .returned (.bool true) ∧ Below w.heap.size w w' := by
  obtain ⟨y0, y1, yb, yz⟩ := two_newT w (.cells (actC t vm vc) 54) (.cells (actC t um uc) 54)
  have hDS : t.D.length + t.S.length ≤ 9223372036854775807 := by have := hm.2.2.2; omega
  have hP := Puts.of_may hm
  have H1 := Lib.hid (h1.below yb)
  have H2 := Lib.hid (h2.below yb)
  clear h1 h2
  go_enter Tryd.func22, Tryd.ntmps22
  go_upto_region 1 with fail
  generalize (w.alloc (.cells (actC t vm vc) 54)).alloc (.cells (actC t um uc) 54) = w1 at *
  obtain ⟨a0, a1, a2, a3, a4, a5, a6, a7, a8, a9, a10, a11⟩ := actIn y0
  obtain ⟨b0, b1, b2, b3, b4, b5, b6, b7, b8, b9, b10, b11⟩ := actIn y1
  obtain ⟨N, hN⟩ : ∃ N, w1.heap.size = N := ⟨_, rfl⟩
  have hNW : N ≤ w1.heap.size := Nat.le_of_eq hN.symm
  have n0 : w.heap.size < N := by omega
  have n1 : w.heap.size + 1 < N := by omega
  have m1 := fun w' (h' : N ≤ w'.heap.size ∧ Below N w1 w') => (lmay t vm vc w' (H1.out.below (by rw [hN]; exact h'.2)) hDS).mono fun e w'' h => (And.intro h.1 (stays_of h'.1 h.2) : _ ∧ Stays N w' w'')
  have m2 := fun w' (h' : N ≤ w'.heap.size ∧ Below N w1 w') => (lmay t um uc w' (H2.out.below (by rw [hN]; exact h'.2)) hDS).mono fun e w'' h => (And.intro h.1 (stays_of h'.1 h.2) : _ ∧ Stays N w' w'')
  have p1 := fun w' (h' : N ≤ w'.heap.size ∧ Below N w1 w') => (lput t vm vc w' (H1.out.below (by rw [hN]; exact h'.2)) hP).mono fun e w'' h => (And.intro h.1 (stays_of h'.1 h.2) : _ ∧ Stays N w' w'')
  have p2 := fun w' (h' : N ≤ w'.heap.size ∧ Below N w1 w') => (lput t um uc w' (H2.out.below (by rw [hN]; exact h'.2)) hP).mono fun e w'' h => (And.intro h.1 (stays_of h'.1 h.2) : _ ∧ Stays N w' w'')
  rw [decide_eq_true hm] at m1 m2
  unfold actC at m1 m2 p1 p2
  generalize frameB (encT t) = F at *
  have HN := Lib.hid (And.intro hN yb)
  clear y0 y1 yb yz hN hm hDS hP
  go_region_held3 (fun w' => N ≤ w'.heap.size ∧ Below N w1 w' ∧ ∀ b o, b < N → w'.cell? ⟨b, o, none⟩ = w1.cell? ⟨b, o, none⟩) (first | with_reducible exact keeps_next (by assumption) (by assumption) | exact keepsT_start hNW) (first | (go_at_call 46; (with_reducible refine Calls.mono (m1 _ ?hk) ?_); (case hk => exact keepsT_two (by assumption)); rintro ev wz ⟨rfl, hzz⟩) | (go_at_call 46; (with_reducible refine Calls.mono (m2 _ ?hk) ?_); (case hk => exact keepsT_two (by assumption)); rintro ev wz ⟨rfl, hzz⟩) | (go_at_call 18; (with_reducible refine Calls.mono (p1 _ ?hk) ?_); (case hk => exact keepsT_two (by assumption)); rintro ev wz ⟨rfl, hzz⟩) | (go_at_call 18; (with_reducible refine Calls.mono (p2 _ ?hk) ?_); (case hk => exact keepsT_two (by assumption)); rintro ev wz ⟨rfl, hzz⟩))
  rename_i hfin
  have HF := Lib.hid (HN.out.2.trans (hfin.2.1.mono (by have := HN.out.1; omega)))
  clear hfin
  go_wp2_with fail
  go_ret
  exact ⟨rfl, HF.out⟩
theorem ask_lits (W A L : Int) (D : ByteArray) (u : Bool) (h1 : (Lit.int .i64 W).wf = true) (h2 : (Lit.int .i64 A).wf = true) (h3 : (Lit.int .i64 L).wf = true) (hs : D.size ≤ maxLen) : Tryd.prog.keyLits 4 52 [.int .i64 W, .int .i64 A, .int .i64 L, .string D, .bool u] = some [.int .i64 W, .int .i64 A, .int .i64 L, .string D.data.toList, .bool u] := by
  have c1 : Tryd.prog.cellsOf 52 = 5 := by kernel_rfl
  have c2 : Tryd.prog.cellsOf 3 = 1 := by kernel_rfl
  have c3 : Tryd.prog.cellsOf 4 = 1 := by kernel_rfl
  have c4 : Tryd.prog.cellsOf 9 = 1 := by kernel_rfl
  simp [Program.keyLits, Tryd.underlying52, Tryd.underlying3, Tryd.underlying4, Tryd.underlying9, c1, c2, c3, c4, h1, h2, h3, hs]
theorem ask_formed (W A L : Int) (D : ByteArray) (u : Bool) : (Value.agg #[.int .i64 W, .int .i64 A, .int .i64 L, .string D, .bool u]).formed Tryd.prog 52 = true := by kernel_rfl
theorem askkey : Tryd.prog.keyTypeAt 4 52 = true := by kernel_rfl
theorem ask_same (W A L : Int) (D : ByteArray) (u : Bool) (w : World) (h1 : (Lit.int .i64 W).wf = true) (h2 : (Lit.int .i64 A).wf = true) (h3 : (Lit.int .i64 L).wf = true) (hs : D.size ≤ maxLen) :
    (binOp .eql 52 (.agg #[.int .i64 W, .int .i64 A, .int .i64 L, .string D, .bool u]) (.agg #[.int .i64 W, .int .i64 A, .int .i64 L, .string D, .bool u])).run Tryd.prog w = .ok (.bool true) w :=
  (eq_deep (m := 4) (D := 4) (D' := 4) askkey (by decide) (ask_formed W A L D u) (ask_formed W A L D u) (ask_lits W A L D u h1 h2 h3 hs) (ask_lits W A L D u h1 h2 h3 hs) true (by simp) w).1
end Go.Proofs.YtkdmnhmlkcejfaaDoor
