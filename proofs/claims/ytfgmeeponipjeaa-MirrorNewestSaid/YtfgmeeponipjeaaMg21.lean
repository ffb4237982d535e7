/-
  Several texts, laid together.
-/
import Derived.Test.YtfgmeeponipjeaaMg20
import Derived.Test.YtfgmeeponipjeaaMg13
import Derived.Test.YtfgmeeponipjeaaMg1
/-
  A mirror with room for four: Clean and Warm, whatever it holds.
-/

namespace Go.Proofs.Ytfgmeeponipjeaa
open Go.RowKit
set_option linter.unusedVariables false
set_option linter.unusedSimpArgs false

theorem MS.mono {w : World} {N p m C a mp : Nat} {v : Value} {l : List HI} {W : Int} {V : Nat → Value} {L : Nat → List Int} {n n' : Nat} {D : DataW Unit} {A : Array Value} (h : MS w N p m C a mp v l W V L n D A) (hn : n ≤ n') : MS w N p m C a mp v l W V L n' D A :=
  ⟨h.set, h.mir, h.low, h.m64, h.m65, ⟨h.cac.arc, h.cac.ai, h.cac.cac, h.cac.map.mono hn, h.cac.low, h.cac.num⟩, h.nod⟩
theorem Inv.cput {l : List HI} {L L' : Nat → List Int} {D D' : DataW Unit} {A : Array Value} {F : Nat → Int} (h : Inv l L D A F) {l' : List HI} {k : Nat} {x : Int} (hk : k < 4) (hx : ∀ z, A[k]? = some (.int .u64 z) → z ≤ x) (hg : getL l' k = none) (ho : ∀ b : Nat, b ≠ k → getL l' b = getL l b)
    (hL : ∀ y, 0 < kc L' y → (y = (k : Int) ∧ dat D' y = .lit (.int .u64 x)) ∨ (y ≠ (k : Int) ∧ 0 < kc L y ∧ dat D' y = dat D y)) : Inv l' L' D' A F := fun b hb => by
  obtain ⟨y, h1, h2, h3, h4⟩ := h b hb
  by_cases e : b = k
  · subst e
    refine ⟨y, h1, h2, fun r hr => (by rw [hg] at hr; cases hr), fun _ hp => ?_⟩
    rcases hL b hp with ⟨-, q⟩ | ⟨q, -⟩
    · exact ⟨x, q, hx y h1⟩
    · exact absurd rfl q
  · refine ⟨y, h1, h2, fun r hr => h3 r (ho b e ▸ hr), fun hn hp => ?_⟩
    rcases hL b hp with ⟨q, -⟩ | ⟨-, q2, q3⟩
    · omega
    · rw [q3]; exact h4 (ho b e ▸ hn) q2
theorem Inv.warm {l : List HI} {L L' : Nat → List Int} {D D' : DataW Unit} {A : Array Value} {F : Nat → Int} (h : Inv l L D A F) {k : Nat} {x z : Int} (hk : k < 4) (hz : A[k]? = some (.int .u64 z)) (hx : z ≤ x) (hg : getL l k = none)
    (hL : ∀ y, 0 < kc L' y → (y = (k : Int) ∧ dat D' y = .lit (.int .u64 x)) ∨ (y ≠ (k : Int) ∧ 0 < kc L y ∧ dat D' y = dat D y)) : Inv l L' D' (A.setIfInBounds k (.int .u64 x)) F := fun b hb => by
  obtain ⟨y, h1, h2, h3, h4⟩ := h b hb
  by_cases e : b = k
  · subst e
    rw [hz] at h1
    injection h1 with h1
    injection h1 with _ h1
    subst h1
    have hlt : b < A.size := (Array.getElem?_eq_some_iff.1 hz).1
    refine ⟨x, by simp [Array.getElem?_setIfInBounds, hlt], by omega, fun r hr => (by rw [hg] at hr; cases hr), fun _ hp => ?_⟩
    rcases hL b hp with ⟨-, q⟩ | ⟨q, -⟩
    · exact ⟨x, q, Int.le_refl _⟩
    · exact absurd rfl q
  · refine ⟨y, by rw [Array.getElem?_setIfInBounds_ne (by omega)]; exact h1, h2, h3, fun hn hp => ?_⟩
    rcases hL b hp with ⟨q, -⟩ | ⟨-, q2, q3⟩
    · omega
    · rw [q3]; exact h4 hn q2
set_option maxHeartbeats 3200000 in
set_option maxRecDepth 100000 in
theorem mcleanW (k : Nat) (hk : k < 4) (ver : Int) (w : World) (N m n : Nat) (F : Nat → Int) (h : Mst w N m n F) (hn : n < 1000) :
    Calls Try.prog 20 #[.pointer (some ⟨m, 0, none⟩), .int .i64 (k : Nat), .int .u64 ver] w fun e w' => (∃ b, e = .returned (.bool b)) ∧ Mst w' N m (n + 1) F ∧ MTurn w w' N := by
  obtain ⟨p, C, a, mp, v, l, W, V, L, D, A, hM, hI⟩ := h
  have cg := sget w N p v l hM.set (k : Int)
  obtain ⟨m64, m65⟩ := hM.cell
  have HINV := Lib.hid hI
  have HM := Lib.hid hM
  have hcase : (∃ y, getL l (k : Int) = some y ∧ y.d = ⟨#[]⟩ ∧ dropsL l k ver = true ∧ getL (dropL l k ver) k = none) ∨ (dropsL l k ver = false ∧ dropL l k ver = l) := by
    cases hd : dropsL l k ver
    · exact .inr ⟨rfl, drop_no hM.set.2.2.2 hd⟩
    · obtain ⟨⟨y, h1, h2⟩, h3⟩ := drop_yes hM.set.2.2.2 hd
      exact .inl ⟨y, h1, hM.nod y (getL_memM h1), rfl, h3⟩
  unfold itemA at cg
  clear hI hM
  obtain ⟨ok, hok⟩ : ∃ ok, (getL l (k : Int)).isSome = ok := ⟨_, rfl⟩
  obtain ⟨gV, hgV⟩ : ∃ x, gv (getL l (k : Int)) = x := ⟨_, rfl⟩
  obtain ⟨gD, hgD⟩ : ∃ x, gd (getL l (k : Int)) = x := ⟨_, rfl⟩
  rw [hok, hgV, hgD] at cg
  have HG := Lib.hid (And.intro hgV hgD)
  clear hok hgV hgD
  go_enter Try.func20, Try.ntmps20
  go_upto_region 3 with fail
  go_wp2_with fail
  refine Calls.mono cg ?_
  rintro e w1 ⟨rfl, hb1⟩
  have hM1 := HM.out.below hb1
  have hT1 := HM.out.turnB hb1
  have hy := heap_alloc_self w1 (.cells #[.int .u64 gV, .string gD] 54)
  have hb2 := (Below.refl w1.heap.size w1).alloc (Nat.le_refl _) (.cells #[.int .u64 gV, .string gD] 54)
  have HM2 := Lib.hid (And.intro (hM1.below hb2) (And.intro (hT1.trans (hM1.turnB hb2)) hy))
  clear cg m64 m65 hM1 hT1 hy hb2 HM hb1
  go_upto_region 4 with fail
  generalize w1.alloc (.cells #[.int .u64 gV, .string gD] 54) = w2 at *
  have cd := sdrop w2 N p v l HM2.out.1.set (k : Int) ver
  obtain ⟨m64, m65⟩ := HM2.out.1.cell
  rcases hcase with ⟨y, hy1, hy2, hy3, hy4⟩ | ⟨hy3, hy4⟩
  · rw [hy3] at cd
    have hgv : gV = y.v := by rw [← HG.out.1, hy1]; rfl
    have hgd : gD = ⟨#[]⟩ := by rw [← HG.out.2, hy1]; exact hy2
    subst hgd
    have HY := Lib.hid (And.intro hy1 (And.intro hgv hy4))
    clear hgv hy1 hy2 hy3 hy4
    go_wp2_with fail
    refine Calls.mono cd ?_
    rintro e w3 ⟨rfl, v', hs3, hk3⟩
    obtain ⟨hM3, hT3⟩ := HM2.out.1.setTo hs3 hk3 (fun q hq => HM2.out.1.nod q (List.mem_filter.1 hq).1)
    have hy3 := hT3.itm HM2.out.2.2
    have HM3 := Lib.hid (And.intro hM3 (HM2.out.2.1.trans hT3))
    have cc := cputW (k : Int) gV w3.drew N C a mp W V L n D hM3.drew.cac ⟨by omega, by omega⟩ hn
    clear cd m64 m65 HM2 hs3 hk3 hT3
    obtain ⟨m64, m65⟩ := hM3.cell
    obtain ⟨d0, d1, -, -⟩ := item_cells hy3
    clear hM3 hy3
    go_upto_region 6 with fail
    go_region_with (go_at_call 55; refine Calls.mono cc ?_; rintro e w4 ⟨rfl, W', V', L', D', ht4, hL4⟩)
    all_goals
      obtain ⟨hM4, hT4⟩ := HM3.out.1.drew.cacTo ht4
      have HM4 := Lib.hid (And.intro hM4 (HM3.out.2.drew.trans hT4))
      have HL := Lib.hid hL4
      clear ht4 hL4 hM4 hT4 cc m64 m65 d0 d1
      go_wp2_with fail
      go_ret
      refine ⟨⟨_, rfl⟩, ⟨p, C, a, mp, v', _, W', V', L', D', A, HM4.out.1, HINV.out.cput hk (fun z hz => ?_) HY.out.2.2 (fun b hb => getL_drop_other (by omega)) HL.out⟩, HM4.out.2⟩
      obtain ⟨z', h1, -, h3, -⟩ := HINV.out k hk
      rw [hz] at h1
      injection h1 with h1
      injection h1 with _ h1
      rw [HY.out.2.1, h1]
      exact h3 y HY.out.1
  · rw [hy3] at cd
    have HY := Lib.hid hy4
    clear hy3 hy4
    go_wp2_with fail
    refine Calls.mono cd ?_
    rintro e w3 ⟨rfl, v', hs3, hk3⟩
    rw [HY.out] at hs3
    obtain ⟨hM3, hT3⟩ := HM2.out.1.setTo hs3 hk3 HM2.out.1.nod
    have HM3 := Lib.hid (And.intro hM3 (HM2.out.2.1.trans hT3))
    clear cd m64 m65 hs3 hk3 hM3 hT3
    go_wp2_with fail
    go_ret
    exact ⟨⟨_, rfl⟩, ⟨p, C, a, mp, v', l, W, V, L, D, A, HM3.out.1.mono (Nat.le_succ n), HINV.out⟩, HM3.out.2⟩
set_option maxHeartbeats 3200000 in
set_option maxRecDepth 100000 in
theorem mwarmW (k : Nat) (hk : k < 4) (x : Int) (w : World) (N m n : Nat) (F : Nat → Int) (h : Mst w N m n F) (hn : n < 1000) :
    Calls Try.prog 21 #[.pointer (some ⟨m, 0, none⟩), .int .i64 (k : Nat), .agg #[.int .u64 x, .string ⟨#[]⟩]] w fun e w' => (∃ b, e = .returned (.bool b)) ∧ Mst w' N m (n + 1) F ∧ MTurn w w' N := by
  obtain ⟨p, C, a, mp, v, l, W, V, L, D, A, hM, hI⟩ := h
  obtain ⟨z, hz, -, -, -⟩ := hI k hk
  have hb0 := (Below.refl w.heap.size w).alloc (Nat.le_refl _) (.cells #[.int .u64 x, .string ⟨#[]⟩] 54)
  have hy := heap_alloc_self w (.cells #[.int .u64 x, .string ⟨#[]⟩] 54)
  have hT := hM.turnB hb0
  have h1 := hM.below hb0
  have cm := (mayT_none x).1
  unfold itemA at cm
  have hkk : (k : Int) < 64 := by omega
  have HINV := Lib.hid hI
  have HZ := Lib.hid hz
  clear hM hb0
  go_enter Try.func21, Try.ntmps21
  go_upto_region 1 with fail
  generalize w.alloc (.cells #[.int .u64 x, .string ⟨#[]⟩] 54) = w1 at *
  obtain ⟨d0, d1, -, -⟩ := item_cells hy
  have m3 := (h1.met hz).1
  obtain ⟨N0, hN0⟩ : ∃ N, w1.heap.size = N := ⟨_, rfl⟩
  have HN := Lib.hid hN0
  have HY := Lib.hid hy
  have hlt : w.heap.size < N0 := by rw [← hN0]; exact lt_heap hy
  have hlm : m < N0 := by rw [← hN0]; exact lt_heap h1.mir
  have c1 : ∀ w', N0 ≤ w'.heap.size → Calls Try.prog 49 #[.int .i64 (k : Nat)] w' fun e w'' => e = .returned (.bool true) ∧ Stays N0 w' w'' := fun w' h => (mhasK k hk w').mono fun e w'' ⟨he, hw⟩ => ⟨he, by rw [← hw]; exact stays_refl h⟩
  have c2 : ∀ w', N0 ≤ w'.heap.size → Calls Try.prog 50 #[.agg #[.int .u64 x, .string ⟨#[]⟩]] w' fun e w'' => e = .returned (.bool true) ∧ Stays N0 w' w'' := fun w' h => (cm w').mono fun e w'' ⟨he, hw⟩ => ⟨he, stays_of h hw⟩
  have HM := Lib.hid (And.intro h1 hT)
  clear hy h1 hT cm hN0 hz
  have hcase : x < z ∨ z ≤ x := by omega
  rcases hcase with hxz | hxz
  · have hxd : decide (x < z) = true := decide_eq_true hxz
    go_region_held3 (fun w' => N0 ≤ w'.heap.size ∧ Below N0 w1 w' ∧ ∀ b o, b < N0 → w'.cell? ⟨b, o, none⟩ = w1.cell? ⟨b, o, none⟩) (first | assumption | exact keeps_start HN.out | exact keeps_next (by assumption) (by assumption)) (first | (go_at_call 49; refine Calls.mono (c1 _ (And.left (by assumption))) ?_; rintro e wz ⟨rfl, hz⟩) | (go_at_call 50; refine Calls.mono (c2 _ (And.left (by assumption))) ?_; rintro e wz ⟨rfl, hz⟩))
    rename_i hfin
    have hbf := hfin.2.1
    rw [← HN.out] at hbf
    have HF := Lib.hid (And.intro (HM.out.1.below hbf) (HM.out.2.trans (HM.out.1.turnB hbf)))
    clear hfin hz c1 c2 d0 d1 m3 hbf
    go_wp2_with fail
    go_ret
    exact ⟨⟨_, rfl⟩, ⟨p, C, a, mp, v, l, W, V, L, D, A, HF.out.1.mono (Nat.le_succ n), HINV.out⟩, HF.out.2⟩
  · have hxd : decide (x < z) = false := decide_eq_false (by omega)
    have hxn : ¬ x < z := by omega
    go_region_held3 (fun w' => N0 ≤ w'.heap.size ∧ Below N0 w1 w' ∧ ∀ b o, b < N0 → w'.cell? ⟨b, o, none⟩ = w1.cell? ⟨b, o, none⟩) (first | assumption | exact keeps_start HN.out | exact keeps_next (by assumption) (by assumption)) (first | (go_at_call 49; refine Calls.mono (c1 _ (And.left (by assumption))) ?_; rintro e wz ⟨rfl, hz⟩) | (go_at_call 50; refine Calls.mono (c2 _ (And.left (by assumption))) ?_; rintro e wz ⟨rfl, hz⟩))
    rename_i hfin
    have hbf := hfin.2.1
    rw [← HN.out] at hbf
    have y := below_at hbf (lt_heap HY.out) HY.out
    have HF := Lib.hid (And.intro (HM.out.1.below hbf) (And.intro (HM.out.2.trans (HM.out.1.turnB hbf)) y))
    have cg := sget wz N p v l (HM.out.1.below hbf).set (k : Int)
    obtain ⟨w2, hw2⟩ : ∃ W, W = wz := ⟨_, rfl⟩
    subst hw2
    unfold itemA at cg
    obtain ⟨m64, m65⟩ := HF.out.1.cell
    obtain ⟨ok, hok⟩ : ∃ ok, (getL l (k : Int)).isSome = ok := ⟨_, rfl⟩
    obtain ⟨gV, hgV⟩ : ∃ x, gv (getL l (k : Int)) = x := ⟨_, rfl⟩
    obtain ⟨gD, hgD⟩ : ∃ x, gd (getL l (k : Int)) = x := ⟨_, rfl⟩
    rw [hok, hgV, hgD] at cg
    have HOK := Lib.hid hok
    clear hfin hz c1 c2 d0 d1 m3 hbf HM y hok hgV hgD
    go_wp2_with fail
    refine Calls.mono cg ?_
    rintro e w3 ⟨rfl, hb3⟩
    have hM3 := HF.out.1.below hb3
    have hT3 := HF.out.1.turnB hb3
    have hy3 := below_at hb3 (lt_heap HF.out.2.2) HF.out.2.2
    have hb4 := (Below.refl w3.heap.size w3).alloc (Nat.le_refl _) (.cells #[.int .u64 gV, .string gD] 54)
    have HM4 := Lib.hid (And.intro (hM3.below hb4) (And.intro ((HF.out.2.1.trans hT3).trans (hM3.turnB hb4)) (below_at hb4 (lt_heap hy3) hy3)))
    clear cg m64 m65 hM3 hT3 hy3 hb4 HF hb3
    go_upto_region 4 with fail
    generalize w3.alloc (.cells #[.int .u64 gV, .string gD] 54) = w4 at *
    cases ok
    case true =>
      go_wp2_with fail
      go_ret
      exact ⟨⟨_, rfl⟩, ⟨p, C, a, mp, v, l, W, V, L, D, A, HM4.out.1.mono (Nat.le_succ n), HINV.out⟩, HM4.out.2.1⟩
    case false =>
      have HGN := Lib.hid (show getL l (k : Int) = none from by
        cases e : getL l (k : Int)
        · rfl
        · have := HOK.out; rw [e] at this; cases this)
      obtain ⟨d0, d1, -, -⟩ := item_cells HM4.out.2.2
      obtain ⟨m3, f3⟩ := HM4.out.1.met HZ.out
      obtain ⟨hM5, hT5⟩ := HM4.out.1.metTo k hk x
      have HM5 := Lib.hid (And.intro hM5.drew (HM4.out.2.1.trans hT5).drew)
      have y5 := (hT5.drew).itm HM4.out.2.2
      clear hM5 hT5
      go_upto_region 6 with fail
      go_region
      generalize (w4.setCell ⟨m, k, none⟩ (.int .u64 x)).drew = w5 at *
      clear d0 d1 m3 f3 HM4
      have cc := cputW (k : Int) x w5.drew N C a mp W V L n D HM5.out.1.drew.cac ⟨by omega, by omega⟩ hn
      obtain ⟨m64, m65⟩ := HM5.out.1.cell
      obtain ⟨d0, d1, -, -⟩ := item_cells y5
      clear y5
      go_upto_region 7 with fail
      go_region_with (go_at_call 55; refine Calls.mono cc ?_; rintro e w6 ⟨rfl, W', V', L', D', ht6, hL6⟩)
      all_goals
        obtain ⟨hM6, hT6⟩ := HM5.out.1.drew.cacTo ht6
        have HM6 := Lib.hid (And.intro hM6 (HM5.out.2.drew.trans hT6))
        have HL := Lib.hid hL6
        clear ht6 hL6 hM6 hT6 cc m64 m65 d0 d1
        go_wp2_with fail
        go_ret
        exact ⟨⟨_, rfl⟩, ⟨p, C, a, mp, v, l, W', V', L', D', _, HM6.out.1, HINV.out.warm hk HZ.out hxz HGN.out HL.out⟩, HM6.out.2⟩
end Go.Proofs.Ytfgmeeponipjeaa
/-
  A mirror with room for four: Check, New; a mirror is never elder than what was taken.
-/

namespace Go.Proofs.Ytfgmeeponipjeaa
open Go.RowKit
set_option linter.unusedVariables false
set_option linter.unusedSimpArgs false

theorem MTurn.cellI {w w' : World} {N X : Nat} (h : MTurn w w' N) (hX : w.heap.size ≤ X) (hN : N ≤ X) (k : Nat) (v : Value) : MTurn w (w'.setCell ⟨X, k, none⟩ v) N :=
  ⟨fun j o hj hp => (heap_setCell_far (fun e => by have := lt_heap hj; omega) v).trans (h.keep j o hj hp), h.below.setCell (p := ⟨X, k, none⟩) hN v, by simpa using h.size⟩
theorem MS.cellI {w : World} {N p m C a mp X : Nat} {v : Value} {l : List HI} {W : Int} {V : Nat → Value} {L : Nat → List Int} {n : Nat} {D : DataW Unit} {A : Array Value} (h : MS w N p m C a mp v l W V L n D A) {B : Array Value} (hx : w.heap[X]? = some (.cells B 54)) (k : Nat) (u : Value) : MS (w.setCell ⟨X, k, none⟩ u) N p m C a mp v l W V L n D A :=
  h.keep (item_keep hx u) (fun _ => rfl) (fun _ => rfl) (fun _ => rfl) (fun _ => rfl) (fun _ _ => rfl) (fun _ => rfl) (fun _ => rfl)
set_option maxHeartbeats 3200000 in
set_option maxRecDepth 100000 in
theorem mcheckW (k : Nat) (hk : k < 4) (w : World) (N m n : Nat) (F : Nat → Int) (h : Mst w N m n F) :
    Calls Try.prog 22 #[.pointer (some ⟨m, 0, none⟩), .int .i64 (k : Nat)] w fun e w' => ∃ (kd y : Int) (s : ByteArray), e = .returned (.tuple #[.int .i64 kd, .agg #[.int .u64 y, .string s]]) ∧ (kd = 0 ∨ (kd ≠ 0 ∧ F k ≤ y)) ∧ Mst w' N m n F ∧ MTurn w w' N := by
  obtain ⟨p, C, a, mp, v, l, W, V, L, D, A, hM, hI⟩ := h
  have hb0 := (Below.refl w.heap.size w).alloc (Nat.le_refl _) (.cells #[.int .u64 0, .string ⟨#[]⟩] 54)
  have hy := heap_alloc_self w (.cells #[.int .u64 0, .string ⟨#[]⟩] 54)
  have HN := Lib.hid hM.le
  have hT := hM.turnB hb0
  have h1 := hM.below hb0
  have HINV := Lib.hid hI
  clear hM hb0
  go_enter Try.func22, Try.ntmps22
  go_upto_region 3 with fail
  generalize w.alloc (.cells #[.int .u64 0, .string ⟨#[]⟩] 54) = w1 at *
  have cg := sget w1 N p v l h1.set (k : Int)
  unfold itemA at cg
  obtain ⟨m64, m65⟩ := h1.cell
  have H1 := Lib.hid (And.intro h1 (And.intro hT hy))
  cases hg : getL l (k : Int)
  case some g =>
    rw [hg] at cg
    have HG := Lib.hid hg
    have hgd : g.d = ⟨#[]⟩ := h1.nod g (getL_memM hg)
    have e1 : gv (some g) = g.v := rfl
    have e2 : gd (some g) = ⟨#[]⟩ := hgd
    rw [e1, e2, show (some g).isSome = true from rfl] at cg
    clear h1 hT hy hg hgd e1 e2
    go_wp2_with fail
    refine Calls.mono cg ?_
    rintro e w2 ⟨rfl, hb2⟩
    have y2 := below_at hb2 (lt_heap H1.out.2.2) H1.out.2.2
    have hb3 := (Below.refl w2.heap.size w2).alloc (Nat.le_refl _) (.cells #[.int .u64 g.v, .string ⟨#[]⟩] 54)
    have y3 := below_at hb3 (lt_heap y2) y2
    have z3 := heap_alloc_self w2 (.cells #[.int .u64 g.v, .string ⟨#[]⟩] 54)
    have hM2 := H1.out.1.below hb2
    have hlt := lt_heap y2
    have HM3 := Lib.hid (And.intro (hM2.below hb3) ((H1.out.2.1.trans (H1.out.1.turnB hb2)).trans (hM2.turnB hb3)))
    clear hb2 y2 hb3 hM2 cg m64 m65 H1
    go_upto_region 5 with fail
    generalize w2.alloc (.cells #[.int .u64 g.v, .string ⟨#[]⟩] 54) = w3 at *
    obtain ⟨d0, d1, f0, f1⟩ := item_cells y3
    obtain ⟨e0, e1, -, -⟩ := item_cells z3
    go_region
    obtain ⟨s0, s1⟩ := item_over y3 g.v ⟨#[]⟩
    have hM4 := (((HM3.out.1.cellI y3 0 (.int .u64 g.v)).cellI (heap_set_self y3 0 (.int .u64 g.v)) 1 (.string ⟨#[]⟩))).drew
    have hT4 := (((HM3.out.2.cellI (Nat.le_refl _) HN.out 0 (.int .u64 g.v)).cellI (Nat.le_refl _) HN.out 1 (.string ⟨#[]⟩))).drew
    have FO := Lib.hid (And.intro hM4 hT4)
    have s0 : ((w3.setCell ⟨w.heap.size, 0, none⟩ (.int .u64 g.v)).setCell ⟨w.heap.size, 1, none⟩ (.string ⟨#[]⟩)).drew.cell? ⟨w.heap.size, 0, none⟩ = some (.int .u64 g.v) := s0
    have s1 : ((w3.setCell ⟨w.heap.size, 0, none⟩ (.int .u64 g.v)).setCell ⟨w.heap.size, 1, none⟩ (.string ⟨#[]⟩)).drew.cell? ⟨w.heap.size, 1, none⟩ = some (.string ⟨#[]⟩) := s1
    clear hM4 hT4
    generalize ((w3.setCell ⟨w.heap.size, 0, none⟩ (.int .u64 g.v)).setCell ⟨w.heap.size, 1, none⟩ (.string ⟨#[]⟩)).drew = w5 at *
    clear d0 d1 f0 f1 e0 e1 y3 z3
    go_wp2_with fail
    refine bodyPost_ret (v := .tuple #[.int .i64 1, .agg #[.int .u64 g.v, .string ⟨#[]⟩]]) (by simp [results, Try.results22, go_sem, s0, s1]) rfl ?_
    refine ⟨1, g.v, ⟨#[]⟩, rfl, .inr ⟨by decide, ?_⟩, ⟨p, C, a, mp, v, l, W, V, L, D, A, FO.out.1, HINV.out⟩, FO.out.2⟩
    obtain ⟨z, -, h2, h3, -⟩ := HINV.out k hk
    exact Int.le_trans h2 (h3 g HG.out)
  case none =>
    rw [hg] at cg
    have HG := Lib.hid hg
    have e1 : gv (none : Option HI) = 0 := rfl
    have e2 : gd (none : Option HI) = ⟨#[]⟩ := rfl
    rw [e1, e2, show (none : Option HI).isSome = false from rfl] at cg
    clear h1 hT hy hg e1 e2
    go_wp2_with fail
    refine Calls.mono cg ?_
    rintro e w2 ⟨rfl, hb2⟩
    have y2 := below_at hb2 (lt_heap H1.out.2.2) H1.out.2.2
    have hb3 := (Below.refl w2.heap.size w2).alloc (Nat.le_refl _) (.cells #[.int .u64 0, .string ⟨#[]⟩] 54)
    have y3 := below_at hb3 (lt_heap y2) y2
    have hM2 := H1.out.1.below hb2
    have HM3 := Lib.hid (And.intro (hM2.below hb3) (And.intro ((H1.out.2.1.trans (H1.out.1.turnB hb2)).trans (hM2.turnB hb3)) y3))
    clear hb2 y2 hb3 hM2 cg m64 m65 H1 y3
    go_upto_region 6 with fail
    generalize w2.alloc (.cells #[.int .u64 0, .string ⟨#[]⟩] 54) = w3 at *
    obtain ⟨m64, m65⟩ := HM3.out.1.cell
    have hkc : kc L (k : Int) = 0 ∨ 0 < kc L (k : Int) := by omega
    rcases hkc with hk0 | hk0
    · have cc := cgetW_no (k : Int) w3 N C a mp W V L n D HM3.out.1.cac hk0
      clear hk0
      go_wp2_with fail
      refine Calls.mono cc ?_
      rintro e w4 ⟨rfl, hb4⟩
      have hM4 := HM3.out.1.below hb4
      have hT4 := HM3.out.2.1.trans (HM3.out.1.turnB hb4)
      have y4 := below_at hb4 (lt_heap HM3.out.2.2) HM3.out.2.2
      have hb5 := (Below.refl w4.heap.size w4).alloc (Nat.le_refl _) (.cells #[.int .u64 0, .string ⟨#[]⟩] 54)
      have HM5 := Lib.hid (And.intro (hM4.below hb5) (And.intro (hT4.trans (hM4.turnB hb5)) (below_at hb5 (lt_heap y4) y4)))
      clear hb4 hM4 hT4 y4 hb5 cc m64 m65 HM3
      go_upto_region 9 with fail
      generalize w4.alloc (.cells #[.int .u64 0, .string ⟨#[]⟩] 54) = w5 at *
      obtain ⟨d0, d1, f0, f1⟩ := item_cells HM5.out.2.2
      go_wp2_with fail
      obtain ⟨s0, s1⟩ := item_over HM5.out.2.2 0 ⟨#[]⟩
      have FO := Lib.hid (And.intro ((HM5.out.1.cellI HM5.out.2.2 0 (.int .u64 0)).cellI (heap_set_self HM5.out.2.2 0 (.int .u64 0)) 1 (.string ⟨#[]⟩)) ((HM5.out.2.1.cellI (Nat.le_refl _) HN.out 0 (.int .u64 0)).cellI (Nat.le_refl _) HN.out 1 (.string ⟨#[]⟩)))
      generalize (w5.setCell ⟨w.heap.size, 0, none⟩ (.int .u64 0)).setCell ⟨w.heap.size, 1, none⟩ (.string ⟨#[]⟩) = w6 at *
      refine bodyPost_ret (v := .tuple #[.int .i64 0, .agg #[.int .u64 0, .string ⟨#[]⟩]]) (by simp [results, Try.results22, go_sem, s0, s1]) rfl ?_
      exact ⟨0, 0, ⟨#[]⟩, rfl, .inl rfl, ⟨p, C, a, mp, v, l, W, V, L, D, A, FO.out.1, HINV.out⟩, FO.out.2⟩
    · obtain ⟨z, -, hz2, -, hz4⟩ := HINV.out k hk
      obtain ⟨x, hx, hzx⟩ := hz4 HG.out hk0
      have cc := cgetW_yes (k : Int) x w3 N C a mp W V L n D HM3.out.1.cac ⟨by omega, by omega⟩ hk0 hx
      have HX := Lib.hid (show F k ≤ x by omega)
      clear hk0 hx hzx hz2 hz4
      go_wp2_with fail
      refine Calls.mono cc ?_
      rintro e w4 ⟨rfl, W', V', L', ht4, hL4⟩
      obtain ⟨hM4, hT4⟩ := HM3.out.1.cacTo ht4
      have y4 := hT4.itm HM3.out.2.2
      have hb5 := (Below.refl w4.heap.size w4).alloc (Nat.le_refl _) (.cells #[.int .u64 x, .string ⟨#[]⟩] 54)
      have z5 := heap_alloc_self w4 (.cells #[.int .u64 x, .string ⟨#[]⟩] 54)
      have y5 := below_at hb5 (lt_heap y4) y4
      have hlt := lt_heap y4
      have HM5 := Lib.hid (And.intro (hM4.below hb5) ((HM3.out.2.1.trans hT4).trans (hM4.turnB hb5)))
      have HL := Lib.hid hL4
      clear hM4 hT4 y4 hb5 cc m64 m65 HM3 ht4 hL4
      go_upto_region 8 with fail
      generalize w4.alloc (.cells #[.int .u64 x, .string ⟨#[]⟩] 54) = w5 at *
      obtain ⟨d0, d1, f0, f1⟩ := item_cells y5
      obtain ⟨e0, e1, -, -⟩ := item_cells z5
      go_region
      obtain ⟨s0, s1⟩ := item_over y5 x ⟨#[]⟩
      have hM6 := (((HM5.out.1.cellI y5 0 (.int .u64 x)).cellI (heap_set_self y5 0 (.int .u64 x)) 1 (.string ⟨#[]⟩))).drew
      have hT6 := (((HM5.out.2.cellI (Nat.le_refl _) HN.out 0 (.int .u64 x)).cellI (Nat.le_refl _) HN.out 1 (.string ⟨#[]⟩))).drew
      have FO := Lib.hid (And.intro hM6 hT6)
      have s0 : ((w5.setCell ⟨w.heap.size, 0, none⟩ (.int .u64 x)).setCell ⟨w.heap.size, 1, none⟩ (.string ⟨#[]⟩)).drew.cell? ⟨w.heap.size, 0, none⟩ = some (.int .u64 x) := s0
      have s1 : ((w5.setCell ⟨w.heap.size, 0, none⟩ (.int .u64 x)).setCell ⟨w.heap.size, 1, none⟩ (.string ⟨#[]⟩)).drew.cell? ⟨w.heap.size, 1, none⟩ = some (.string ⟨#[]⟩) := s1
      clear hM6 hT6
      generalize ((w5.setCell ⟨w.heap.size, 0, none⟩ (.int .u64 x)).setCell ⟨w.heap.size, 1, none⟩ (.string ⟨#[]⟩)).drew = w6 at *
      clear d0 d1 f0 f1 e0 e1 y5 z5
      go_wp2_with fail
      refine bodyPost_ret (v := .tuple #[.int .i64 2, .agg #[.int .u64 x, .string ⟨#[]⟩]]) (by simp [results, Try.results22, go_sem, s0, s1]) rfl ?_
      refine ⟨2, x, ⟨#[]⟩, rfl, .inr ⟨by decide, HX.out⟩, ⟨p, C, a, mp, v, l, W', V', L', D, A, FO.out.1, fun b hb => ?_⟩, FO.out.2⟩
      obtain ⟨z', q1, q2, q3, q4⟩ := HINV.out b hb
      exact ⟨z', q1, q2, q3, fun r hr => q4 r (HL.out b hr)⟩
end Go.Proofs.Ytfgmeeponipjeaa
/-
  A slice of structs that came in, read element by element. Of no program.
-/


namespace Go.Proofs.Ytfgmeeponipjeaa
open Go.RowKit
set_option linter.unusedVariables false

/-- the slice v has the elements rs, of sz cells each -/
def Elts {α : Type} (w : World) (c : α → List Value) (sz : Nat) (v : Value) (rs : List α) : Prop :=
  ∃ a cap, v = .slice a rs.length cap ∧ rs.length ≤ cap ∧ cap ≤ maxLen ∧ (rs.length = 0 ∨ ∃ b off, a = some ⟨b, off, none⟩ ∧ b < w.heap.size ∧
    ∀ (j : Nat) x, rs[j]? = some x → ∀ (k : Nat) u, (c x)[k]? = some u → w.cell? ⟨b, off + j * sz + k, none⟩ = some u)
theorem Elts.below {α : Type} {w w' : World} {c : α → List Value} {sz : Nat} {v : Value} {rs : List α} (h : Elts w c sz v rs) (hb : Below w.heap.size w w') : Elts w' c sz v rs := by
  obtain ⟨a, cap, rfl, h1, h2, h3⟩ := h
  refine ⟨a, cap, rfl, h1, h2, h3.imp id ?_⟩
  rintro ⟨b, off, rfl, hlt, hc⟩
  exact ⟨b, off, rfl, Nat.lt_of_lt_of_le hlt hb.size, fun j x hj k u hk => (hb.cell (p := ⟨b, off + j * sz + k, none⟩) hlt).trans (hc j x hj k u hk)⟩
theorem Elts.at_ {α : Type} {w : World} {c : α → List Value} {sz : Nat} {a : Option Addr} {len cap : Nat} {rs : List α} (h : Elts w c sz (.slice a len cap) rs) {j : Nat} {x : α} (hj : rs[j]? = some x) :
    len = rs.length ∧ ∃ b off, a = some ⟨b, off, none⟩ ∧ b < w.heap.size ∧ ∀ (k : Nat) u, (c x)[k]? = some u → w.cell? ⟨b, off + j * sz + k, none⟩ = some u := by
  obtain ⟨a', cap', he, h1, h2, h3⟩ := h
  injection he with e1 e2 e3
  subst e1 e2 e3
  have := (List.getElem?_eq_some_iff.1 hj).1
  obtain ⟨b, off, rfl, hlt, hc⟩ := h3.resolve_left (by omega)
  exact ⟨rfl, b, off, rfl, hlt, hc j x hj⟩
theorem fits_rows {α : Type} {w : World} {s : Sh} {c : α → List Value} {good : α → Prop} (one : ∀ ys, Fits w s ys → ∃ x, ys = c x ∧ good x)
    {a : Option Addr} {len cap : Nat} (h : Fits w (.slice s) [.slice a len cap]) : ∃ rs : List α, rs.length = len ∧ Elts w c s.size (.slice a len cap) rs ∧ ∀ x ∈ rs, good x := by
  obtain ⟨hlc, hcm, hel⟩ := h.slice
  rcases Nat.eq_zero_or_pos len with h0 | h0
  · subst h0
    exact ⟨[], rfl, ⟨a, cap, rfl, hlc, hcm, .inl rfl⟩, by simp⟩
  · obtain ⟨b, off, rfl, hb, hi⟩ := hel.resolve_left (by omega)
    have hx : ∀ i, i < len → ∃ x : α, good x ∧ ∀ (k : Nat) u, (c x)[k]? = some u → w.cell? ⟨b, off + i * s.size + k, none⟩ = some u := fun i hlt => by
      obtain ⟨ys, _, hc, hf⟩ := hi i hlt
      obtain ⟨x, rfl, hr⟩ := one ys hf
      exact ⟨x, hr, hc⟩
    have hrs : ∀ n, n ≤ len → ∃ rs : List α, rs.length = n ∧ (∀ x ∈ rs, good x) ∧ ∀ (i : Nat) x, rs[i]? = some x → ∀ (k : Nat) u, (c x)[k]? = some u → w.cell? ⟨b, off + i * s.size + k, none⟩ = some u := by
      intro n
      induction n with
      | zero => exact fun _ => ⟨[], rfl, by simp, fun i x e => by simp at e⟩
      | succ n ih =>
        intro hn
        obtain ⟨rs, h1, h2, h3⟩ := ih (by omega)
        obtain ⟨x, hr, hc⟩ := hx n (by omega)
        refine ⟨rs ++ [x], by simp [h1], fun y hy => ?_, fun i y e => ?_⟩
        · rcases List.mem_append.1 hy with q | q
          · exact h2 y q
          · rw [List.mem_singleton.1 q]; exact hr
        · rcases Nat.lt_trichotomy i n with q | q | q
          · rw [List.getElem?_append_left (by omega)] at e
            exact h3 i y e
          · subst q
            rw [List.getElem?_append_right (by omega), h1, Nat.sub_self] at e
            simp only [List.getElem?_cons_zero, Option.some.injEq] at e
            subst e
            exact hc
          · have := (List.getElem?_eq_some_iff.1 e).1
            simp [h1] at this
            omega
    obtain ⟨rs, h1, h2, h3⟩ := hrs len (Nat.le_refl _)
    subst h1
    exact ⟨rs, rfl, ⟨_, cap, rfl, hlc, hcm, .inr ⟨b, off, rfl, hb, h3⟩⟩, h2⟩
end Go.Proofs.Ytfgmeeponipjeaa
