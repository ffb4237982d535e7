/-
  The waking call of layer 28; NeedMay.
-/
import Derived.Test.YtjpnbicnaeaacaaNeedD
import Derived.Test.YtjpnbicnaeaacaaFits
namespace Go.Proofs.Ytjpnbicnaeaacaa
open Go.RowKit
set_option linter.unusedVariables false
set_option linter.unusedSimpArgs false

theorem zquiet {P : Program} {f : FuncId} {args : Array Value} {w : World} {a n : Nat} {v : Value} (h : Calls P f args (w.drewN (a + n)) fun e w' => e = .returned v ∧ w.drewN (a + n) = w') :
    Calls P f args (w.drewN (a + n)) fun e w'' => e = .returned v ∧ ∃ m, w'' = w.drewN (a + m) := h.mono fun _ _ ⟨he, hm⟩ => ⟨he, n, hm.symm⟩
set_option maxHeartbeats 1600000 in
set_option maxRecDepth 100000 in
theorem awake28 (w : World) : Calls Try.prog 17 #[] w fun e w' => e = .returned (.bool true) ∧ Below w.heap.size w w' := by
  have c1 := fun w => nparts 2 64 1 2 ⟨#[]⟩ false 8 w (by decide) (by decide) (by decide) (by decide) (by decide)
  unfold askA at c1
  have cz := fun w => zeros_any w
  go_enter Try.func17, Try.ntmps17
  go_wp2_with fail
  refine Calls.mono (c1 _) ?_
  rintro e w2 ⟨v, rfl, hv, hb⟩
  obtain ⟨a, cap, rfl, h1, h2, h3, h4⟩ := SR.owns hv
  rcases h4 with h4 | ⟨b, off, rfl, hlt, hc⟩
  · cases h4
  have d0 : w2.cell? ⟨b, off, none⟩ = some (.int .i64 1) := hc 0 _ rfl
  have d1 : w2.cell? ⟨b, off + 1, none⟩ = some (.bool true) := hc 1 _ rfl
  have d2 : w2.cell? ⟨b, off + 2, none⟩ = some (.string (zeroL 32)) := hc 2 _ rfl
  have d3 : w2.cell? ⟨b, off + 3, none⟩ = some (.int .i64 2) := hc 3 _ rfl
  have HB := Lib.hid hb
  obtain ⟨Z, hZ⟩ : ∃ Z, zeroL 32 = Z := ⟨_, rfl⟩
  rw [hZ] at cz d2
  clear hv h3 hc c1 hb hZ
  go_upto_region 2 with fail
  go_region_held3 (fun w' => w'.cell? ⟨b, off, none⟩ = some (.int .i64 1) ∧ w'.cell? ⟨b, off + 1, none⟩ = some (.bool true) ∧ w'.cell? ⟨b, off + 2, none⟩ = some (.string Z) ∧ w'.cell? ⟨b, off + 3, none⟩ = some (.int .i64 2) ∧ Below w.heap.size w w') (first | assumption | exact ⟨d0, d1, d2, d3, below_drew' HB.out⟩) (first | (go_at_call 20; refine Calls.mono (cz _) ?_; rintro e wz ⟨rfl, rfl⟩))
  rename_i hfin
  have HF := Lib.hid hfin.2.2.2.2
  clear hfin
  go_wp2_with fail
  go_ret
  exact ⟨by simp, HF.out⟩
theorem fits_ask {w : World} {c : Array Value} (h : Fits w (.two (.int .i64) (.two (.int .i64) (.two (.int .i64) (.two .str (.two .bool .unit))))) c.toList) :
    ∃ W A L D S, c = askA W A L D S ∧ (Lit.int .i64 W).wf = true ∧ (Lit.int .i64 A).wf = true ∧ (Lit.int .i64 L).wf = true ∧ D.size ≤ maxLen := by
  obtain ⟨x0, y0, e0, ⟨W, rfl, hW⟩, x1, y1, rfl, ⟨A, rfl, hA⟩, x2, y2, rfl, ⟨L, rfl, hL⟩, x3, y3, rfl, ⟨D, rfl, hD⟩, x4, y4, rfl, ⟨S, rfl⟩, rfl⟩ := h
  refine ⟨W, A, L, D, S, ?_, hW, hA, hL, hD⟩
  apply Array.toList_inj.1
  rw [e0]; rfl
/-- how many parts there are -/
theorem nparts_len (W A L : Int) (D : ByteArray) (S : Bool) (B : Int) (w : World) (hA : (Lit.int .i64 A).wf = true) (hL : (Lit.int .i64 L).wf = true) (hD : D.size ≤ maxLen) (hW : W ≠ 3) (h : AskMay W A L D B) :
    Calls Try.prog 19 #[.agg (askA W A L D S), .int .i64 B] w fun e w' => ∃ a m cap, e = .returned (.slice a m cap) ∧ 0 < m ∧ Below w.heap.size w w' := by
  have hin : Inside A (askSz W L D) B := h.elim (fun h => absurd h hW) (fun h => h.2.2)
  unfold Inside at hin
  obtain ⟨q, hq⟩ : ∃ q : Nat, A = ((32 * q : Nat) : Int) := ⟨(A / 32).toNat, by omega⟩
  obtain ⟨m, hm⟩ : ∃ m : Nat, askSz W L D = ((32 * m : Nat) : Int) := ⟨(askSz W L D / 32).toNat, by omega⟩
  subst hq
  refine (nparts W L q m D S B w hL hD hW h hm).mono ?_
  rintro e w' ⟨v, rfl, hv, hb⟩
  obtain ⟨a, cap, rfl, _⟩ := (SR.owns hv).form
  exact ⟨a, m, cap, rfl, by omega, hb⟩
set_option maxHeartbeats 6400000 in
set_option maxRecDepth 100000 in
theorem needmay_law (c : Array Value) (B k : Int) (w : World) (hf : Fits w (.two (.int .i64) (.two (.int .i64) (.two (.int .i64) (.two .str (.two .bool .unit))))) c.toList) (hB : (Lit.int .i64 B).wf = true) (hk : (Lit.int .i64 k).wf = true) :
    Calls Try.prog 4 #[.agg c, .int .i64 B, .int .i64 k] w fun e w' => e = .returned (.bool true) ∧ Below w.heap.size w w' := by
  obtain ⟨W0, A0, L0, D0, S0, rfl, q1, q2, q3, q4⟩ := fits_ask hf
  have hm : bits .and .i64 B 127 = B % 128 := mask_mod B 7 127 (by decide) (by decide)
  obtain ⟨n, hn⟩ : ∃ n, B % 128 = n := ⟨_, rfl⟩
  rw [hn] at hm
  have hn0 : 0 ≤ n := by omega
  have hn1 : n ≤ 127 := by omega
  have co := fun w => odd_any W0 A0 L0 D0 S0 n k w q1 q2 q3 (wf_of (by omega)) q4
  have hb1 : Below w.heap.size w (w.alloc (.cells (askA W0 A0 L0 D0 S0) 37)) := (Below.refl _ _).alloc (Nat.le_refl _) _
  unfold AskPost askA at *
  have HB1 := Lib.hid hb1
  clear hn hf q1 q2 q3 q4 hb1
  go_enter Try.func4, Try.ntmps4
  go_wp2_with fail
  refine Calls.mono (co _) ?_
  rintro e w2 ⟨W, A, L, D, S, rfl, p1, p2, p3, p4, hb2⟩
  have hb3 : Below w.heap.size w w2 := HB1.out.trans (hb2.mono (by simp))
  have hx := heap_alloc_self w2 (.cells #[.int .i64 W, .int .i64 A, .int .i64 L, .string D, .bool S] 37)
  have hb4 : Below w.heap.size w (w2.alloc (.cells #[.int .i64 W, .int .i64 A, .int .i64 L, .string D, .bool S] 37)) := hb3.alloc (hb3.size) _
  have cs := fun w => nsize W A L D S w
  have cm := fun w => nmay W A L D S n w p2 p3 p4
  have hle := hb3.size
  go_upto_region 3 with fail
  generalize hw4 : w2.alloc (.cells #[.int .i64 W, .int .i64 A, .int .i64 L, .string D, .bool S] 37) = w4 at *
  obtain ⟨X, hX⟩ : ∃ X, w2.heap.size = X := ⟨_, rfl⟩
  rw [hX] at hx hle ⊢
  have d0 : w4.cell? ⟨X, 0, none⟩ = some (.int .i64 W) := by simp [World.cell?, hx]
  have d1 : w4.cell? ⟨X, 1, none⟩ = some (.int .i64 A) := by simp [World.cell?, hx]
  have d2 : w4.cell? ⟨X, 2, none⟩ = some (.int .i64 L) := by simp [World.cell?, hx]
  have d3 : w4.cell? ⟨X, 3, none⟩ = some (.string D) := by simp [World.cell?, hx]
  have d4 : w4.cell? ⟨X, 4, none⟩ = some (.bool S) := by simp [World.cell?, hx]
  have HX := Lib.hid hx
  have HB4 := Lib.hid hb4
  have HP := Lib.hid (And.intro p2 (And.intro p3 p4))
  clear hx hb4 hb2 hb3 co HB1 hw4 hX p1 p2 p3 p4
  unfold askA at *
  have hcase : W = 3 ∨ (W < 0 ∨ 3 < W) ∨ W = 1 ∨ (W = 0 ∨ W = 2) := by omega
  rcases hcase with rfl | hbad | rfl | h02
  · rw [if_pos (.inl rfl)] at cm
    have cp := fun w => (nparts_no 3 A L D S n w HP.out.1 HP.out.2.1 HP.out.2.2 (.inl rfl)).mono fun e w' (h : _ ∧ _) => (⟨none, 0, 0, h.1, rfl, h.2⟩ : ∃ a m cap, e = .returned (.slice a m cap) ∧ m = 0 ∧ Below w.heap.size w w')
    unfold askA at cp
    have hz : askSz 3 L D = L := rfl
    rw [hz] at cs
    clear hz
    go_wp2_with fail
    refine Calls.mono (cm _) ?_
    rintro e w5 ⟨rfl, hb5⟩
    have z5 := lt_heap HX.out
    have y := below_at hb5 (lt_heap HX.out) HX.out
    have d0 : w5.cell? ⟨X, 0, none⟩ = some (.int .i64 3) := by simp [World.cell?, y]
    have d1 : w5.cell? ⟨X, 1, none⟩ = some (.int .i64 A) := by simp [World.cell?, y]
    have d2 : w5.cell? ⟨X, 2, none⟩ = some (.int .i64 L) := by simp [World.cell?, y]
    have d3 : w5.cell? ⟨X, 3, none⟩ = some (.string D) := by simp [World.cell?, y]
    have d4 : w5.cell? ⟨X, 4, none⟩ = some (.bool S) := by simp [World.cell?, y]
    clear y
    have HB5 := Lib.hid hb5
    clear hb5 z5
    go_wp2_with fail
    refine Calls.mono (awake28 _) ?_
    rintro e w6 ⟨rfl, hb6⟩
    have HB6 := Lib.hid (HB5.out.trans (hb6.mono HB5.out.size))
    have y := below_at HB6.out (lt_heap HX.out) HX.out
    have d0 : w6.cell? ⟨X, 0, none⟩ = some (.int .i64 3) := by simp [World.cell?, y]
    have d1 : w6.cell? ⟨X, 1, none⟩ = some (.int .i64 A) := by simp [World.cell?, y]
    have d2 : w6.cell? ⟨X, 2, none⟩ = some (.int .i64 L) := by simp [World.cell?, y]
    have d3 : w6.cell? ⟨X, 3, none⟩ = some (.string D) := by simp [World.cell?, y]
    have d4 : w6.cell? ⟨X, 4, none⟩ = some (.bool S) := by simp [World.cell?, y]
    clear y
    clear hb6 HB5
    go_wp2_with fail
    refine Calls.mono (cs _) ?_
    rintro e w7 ⟨rfl, hb7⟩
    have HB7 := Lib.hid (HB6.out.trans (hb7.mono HB6.out.size))
    have y := below_at HB7.out (lt_heap HX.out) HX.out
    have d0 : w7.cell? ⟨X, 0, none⟩ = some (.int .i64 3) := by simp [World.cell?, y]
    have d1 : w7.cell? ⟨X, 1, none⟩ = some (.int .i64 A) := by simp [World.cell?, y]
    have d2 : w7.cell? ⟨X, 2, none⟩ = some (.int .i64 L) := by simp [World.cell?, y]
    have d3 : w7.cell? ⟨X, 3, none⟩ = some (.string D) := by simp [World.cell?, y]
    have d4 : w7.cell? ⟨X, 4, none⟩ = some (.bool S) := by simp [World.cell?, y]
    clear y
    clear hb7 HB6
    go_wp2_with fail
    refine Calls.mono (cp _) ?_
    rintro e w8 ⟨a8, m8, cap8, rfl, hm8, hb8⟩
    have HB8 := Lib.hid (HB7.out.trans (hb8.mono HB7.out.size))
    have y := below_at HB8.out (lt_heap HX.out) HX.out
    have d0 : w8.cell? ⟨X, 0, none⟩ = some (.int .i64 3) := by simp [World.cell?, y]
    clear y
    have FB := Lib.hid (HB4.out.trans (HB8.out.mono (Nat.le_trans hle (Nat.le_of_lt (lt_heap HX.out)))))
    clear hb8 HB7 HB8
    subst hm8
    go_wp2_with fail
    go_ret
    exact ⟨rfl, FB.out⟩
  · have hno : ¬ AskMay W A L D n := fun h => by rcases h with h | h <;> omega
    rw [if_neg hno] at cm
    have cp := fun w => (nparts_no W A L D S n w HP.out.1 HP.out.2.1 HP.out.2.2 (.inr hno)).mono fun e w' (h : _ ∧ _) => (⟨none, 0, 0, h.1, rfl, h.2⟩ : ∃ a m cap, e = .returned (.slice a m cap) ∧ m = 0 ∧ Below w.heap.size w w')
    unfold askA at cp
    have hz : askSz W L D = L := by unfold askSz; rw [if_neg (by omega)]
    rw [hz] at cs
    have e1 : (W == 1) = false := by rw [beq_eq_false_iff_ne]; omega
    have e3 : (W == 3) = false := by rw [beq_eq_false_iff_ne]; omega
    clear hz hno
    rcases hbad with hbad | hbad
    all_goals
      go_wp2_with fail
      refine Calls.mono (cm _) ?_
      rintro e w5 ⟨rfl, hb5⟩
      have z5 := lt_heap HX.out
      have y := below_at hb5 (lt_heap HX.out) HX.out
      have d0 : w5.cell? ⟨X, 0, none⟩ = some (.int .i64 W) := by simp [World.cell?, y]
      have d1 : w5.cell? ⟨X, 1, none⟩ = some (.int .i64 A) := by simp [World.cell?, y]
      have d2 : w5.cell? ⟨X, 2, none⟩ = some (.int .i64 L) := by simp [World.cell?, y]
      have d3 : w5.cell? ⟨X, 3, none⟩ = some (.string D) := by simp [World.cell?, y]
      have d4 : w5.cell? ⟨X, 4, none⟩ = some (.bool S) := by simp [World.cell?, y]
      clear y
      have HB5 := Lib.hid hb5
      clear hb5 z5
      go_wp2_with fail
      refine Calls.mono (awake28 _) ?_
      rintro e w6 ⟨rfl, hb6⟩
      have HB6 := Lib.hid (HB5.out.trans (hb6.mono HB5.out.size))
      have y := below_at HB6.out (lt_heap HX.out) HX.out
      have d0 : w6.cell? ⟨X, 0, none⟩ = some (.int .i64 W) := by simp [World.cell?, y]
      have d1 : w6.cell? ⟨X, 1, none⟩ = some (.int .i64 A) := by simp [World.cell?, y]
      have d2 : w6.cell? ⟨X, 2, none⟩ = some (.int .i64 L) := by simp [World.cell?, y]
      have d3 : w6.cell? ⟨X, 3, none⟩ = some (.string D) := by simp [World.cell?, y]
      have d4 : w6.cell? ⟨X, 4, none⟩ = some (.bool S) := by simp [World.cell?, y]
      clear y
      clear hb6 HB5
      go_wp2_with fail
      refine Calls.mono (cs _) ?_
      rintro e w7 ⟨rfl, hb7⟩
      have HB7 := Lib.hid (HB6.out.trans (hb7.mono HB6.out.size))
      have y := below_at HB7.out (lt_heap HX.out) HX.out
      have d0 : w7.cell? ⟨X, 0, none⟩ = some (.int .i64 W) := by simp [World.cell?, y]
      have d1 : w7.cell? ⟨X, 1, none⟩ = some (.int .i64 A) := by simp [World.cell?, y]
      have d2 : w7.cell? ⟨X, 2, none⟩ = some (.int .i64 L) := by simp [World.cell?, y]
      have d3 : w7.cell? ⟨X, 3, none⟩ = some (.string D) := by simp [World.cell?, y]
      have d4 : w7.cell? ⟨X, 4, none⟩ = some (.bool S) := by simp [World.cell?, y]
      clear y
      clear hb7 HB6
      go_wp2_with fail
      refine Calls.mono (cp _) ?_
      rintro e w8 ⟨a8, m8, cap8, rfl, hm8, hb8⟩
      have HB8 := Lib.hid (HB7.out.trans (hb8.mono HB7.out.size))
      have y := below_at HB8.out (lt_heap HX.out) HX.out
      have d0 : w8.cell? ⟨X, 0, none⟩ = some (.int .i64 W) := by simp [World.cell?, y]
      clear y
      have FB := Lib.hid (HB4.out.trans (HB8.out.mono (Nat.le_trans hle (Nat.le_of_lt (lt_heap HX.out)))))
      clear hb8 HB7 HB8
      subst hm8
      go_wp2_with fail
      go_ret
      exact ⟨rfl, FB.out⟩
  · have hz : askSz 1 L D = (D.size : Int) := rfl
    have hmay : AskMay 1 A L D n ↔ Inside A (D.size : Int) n := by
      unfold AskMay
      rw [hz]
      exact ⟨fun h => h.elim (fun h => by omega) (fun h => h.2.2), fun h => .inr ⟨by omega, by omega, h⟩⟩
    obtain ⟨b, hbi⟩ : ∃ b, decide (Inside A (D.size : Int) n) = b := ⟨_, rfl⟩
    have HBI := Lib.hid hbi
    have HM := Lib.hid hmay
    rw [hz] at cs
    clear hbi hmay hz
    go_upto_if 36 with fail
    go_cut [10] (fun v wx => v = .bool b ∧ wx = w4)
    case first =>
      go_wp2_with fail
      all_goals go_meet
      all_goals refine ⟨congrArg Value.bool ?_, rfl⟩
      all_goals try simp only [tmod32] at *
      all_goals rw [← HBI.out]
      all_goals (have w1 := wf_le HP.out.1; first | (symm; rw [decide_eq_false_iff_not]; unfold Inside; omega) | (rw [decide_eq_decide]; unfold Inside; rw [Int.tdiv_eq_ediv_of_nonneg (by omega)]; try unfold wrap64; omega))
    case rest =>
      obtain ⟨rfl, rfl⟩ := hcut
      cases b
      · have hno : ¬ AskMay 1 A L D n := fun h => by have := HBI.out; rw [decide_eq_false_iff_not] at this; exact this (HM.out.1 h)
        rw [if_neg hno] at cm
        have cp := fun w => (nparts_no 1 A L D S n w HP.out.1 HP.out.2.1 HP.out.2.2 (.inr hno)).mono fun e w' (h : _ ∧ _) => (⟨none, 0, 0, h.1, rfl, h.2⟩ : ∃ a m cap, e = .returned (.slice a m cap) ∧ m = 0 ∧ Below w.heap.size w w')
        unfold askA at cp
        clear hno
        go_wp2_with fail
        refine Calls.mono (cm _) ?_
        rintro e w5 ⟨rfl, hb5⟩
        have y := below_at hb5 (lt_heap HX.out) HX.out
        have d0 : w5.cell? ⟨X, 0, none⟩ = some (.int .i64 1) := by simp [World.cell?, y]
        have d1 : w5.cell? ⟨X, 1, none⟩ = some (.int .i64 A) := by simp [World.cell?, y]
        have d2 : w5.cell? ⟨X, 2, none⟩ = some (.int .i64 L) := by simp [World.cell?, y]
        have d3 : w5.cell? ⟨X, 3, none⟩ = some (.string D) := by simp [World.cell?, y]
        have d4 : w5.cell? ⟨X, 4, none⟩ = some (.bool S) := by simp [World.cell?, y]
        clear y
        have HB5 := Lib.hid hb5
        clear hb5
        go_wp2_with fail
        refine Calls.mono (awake28 _) ?_
        rintro e w6 ⟨rfl, hb6⟩
        have HB6 := Lib.hid (HB5.out.trans (hb6.mono HB5.out.size))
        have y := below_at HB6.out (lt_heap HX.out) HX.out
        have d0 : w6.cell? ⟨X, 0, none⟩ = some (.int .i64 1) := by simp [World.cell?, y]
        have d1 : w6.cell? ⟨X, 1, none⟩ = some (.int .i64 A) := by simp [World.cell?, y]
        have d2 : w6.cell? ⟨X, 2, none⟩ = some (.int .i64 L) := by simp [World.cell?, y]
        have d3 : w6.cell? ⟨X, 3, none⟩ = some (.string D) := by simp [World.cell?, y]
        have d4 : w6.cell? ⟨X, 4, none⟩ = some (.bool S) := by simp [World.cell?, y]
        clear y
        clear hb6 HB5
        go_wp2_with fail
        refine Calls.mono (cs _) ?_
        rintro e w7 ⟨rfl, hb7⟩
        have HB7 := Lib.hid (HB6.out.trans (hb7.mono HB6.out.size))
        have y := below_at HB7.out (lt_heap HX.out) HX.out
        have d0 : w7.cell? ⟨X, 0, none⟩ = some (.int .i64 1) := by simp [World.cell?, y]
        have d1 : w7.cell? ⟨X, 1, none⟩ = some (.int .i64 A) := by simp [World.cell?, y]
        have d2 : w7.cell? ⟨X, 2, none⟩ = some (.int .i64 L) := by simp [World.cell?, y]
        have d3 : w7.cell? ⟨X, 3, none⟩ = some (.string D) := by simp [World.cell?, y]
        have d4 : w7.cell? ⟨X, 4, none⟩ = some (.bool S) := by simp [World.cell?, y]
        clear y
        clear hb7 HB6
        go_wp2_with fail
        refine Calls.mono (cp _) ?_
        rintro e w8 ⟨a8, m8, cap8, rfl, hm8, hb8⟩
        have HB8 := Lib.hid (HB7.out.trans (hb8.mono HB7.out.size))
        have y := below_at HB8.out (lt_heap HX.out) HX.out
        have d0 : w8.cell? ⟨X, 0, none⟩ = some (.int .i64 1) := by simp [World.cell?, y]
        have d1 : w8.cell? ⟨X, 1, none⟩ = some (.int .i64 A) := by simp [World.cell?, y]
        have d2 : w8.cell? ⟨X, 2, none⟩ = some (.int .i64 L) := by simp [World.cell?, y]
        have d3 : w8.cell? ⟨X, 3, none⟩ = some (.string D) := by simp [World.cell?, y]
        have d4 : w8.cell? ⟨X, 4, none⟩ = some (.bool S) := by simp [World.cell?, y]
        clear y
        have FB := Lib.hid (HB4.out.trans (HB8.out.mono (Nat.le_trans hle (Nat.le_of_lt (lt_heap HX.out)))))
        clear hb8 HB7 HB8
        subst hm8
        go_wp2_with fail
        go_ret
        exact ⟨rfl, FB.out⟩
      · have hyes : AskMay 1 A L D n := HM.out.2 (by have := HBI.out; rwa [decide_eq_true_iff] at this)
        rw [if_pos hyes] at cm
        have cp := fun w => nparts_len 1 A L D S n w HP.out.1 HP.out.2.1 HP.out.2.2 (by decide) hyes
        unfold askA at cp
        clear hyes
        go_wp2_with fail
        refine Calls.mono (cm _) ?_
        rintro e w5 ⟨rfl, hb5⟩
        have y := below_at hb5 (lt_heap HX.out) HX.out
        have d0 : w5.cell? ⟨X, 0, none⟩ = some (.int .i64 1) := by simp [World.cell?, y]
        have d1 : w5.cell? ⟨X, 1, none⟩ = some (.int .i64 A) := by simp [World.cell?, y]
        have d2 : w5.cell? ⟨X, 2, none⟩ = some (.int .i64 L) := by simp [World.cell?, y]
        have d3 : w5.cell? ⟨X, 3, none⟩ = some (.string D) := by simp [World.cell?, y]
        have d4 : w5.cell? ⟨X, 4, none⟩ = some (.bool S) := by simp [World.cell?, y]
        clear y
        have HB5 := Lib.hid hb5
        clear hb5
        go_wp2_with fail
        refine Calls.mono (awake28 _) ?_
        rintro e w6 ⟨rfl, hb6⟩
        have HB6 := Lib.hid (HB5.out.trans (hb6.mono HB5.out.size))
        have y := below_at HB6.out (lt_heap HX.out) HX.out
        have d0 : w6.cell? ⟨X, 0, none⟩ = some (.int .i64 1) := by simp [World.cell?, y]
        have d1 : w6.cell? ⟨X, 1, none⟩ = some (.int .i64 A) := by simp [World.cell?, y]
        have d2 : w6.cell? ⟨X, 2, none⟩ = some (.int .i64 L) := by simp [World.cell?, y]
        have d3 : w6.cell? ⟨X, 3, none⟩ = some (.string D) := by simp [World.cell?, y]
        have d4 : w6.cell? ⟨X, 4, none⟩ = some (.bool S) := by simp [World.cell?, y]
        clear y
        clear hb6 HB5
        go_wp2_with fail
        refine Calls.mono (cs _) ?_
        rintro e w7 ⟨rfl, hb7⟩
        have HB7 := Lib.hid (HB6.out.trans (hb7.mono HB6.out.size))
        have y := below_at HB7.out (lt_heap HX.out) HX.out
        have d0 : w7.cell? ⟨X, 0, none⟩ = some (.int .i64 1) := by simp [World.cell?, y]
        have d1 : w7.cell? ⟨X, 1, none⟩ = some (.int .i64 A) := by simp [World.cell?, y]
        have d2 : w7.cell? ⟨X, 2, none⟩ = some (.int .i64 L) := by simp [World.cell?, y]
        have d3 : w7.cell? ⟨X, 3, none⟩ = some (.string D) := by simp [World.cell?, y]
        have d4 : w7.cell? ⟨X, 4, none⟩ = some (.bool S) := by simp [World.cell?, y]
        clear y
        clear hb7 HB6
        go_wp2_with fail
        refine Calls.mono (cp _) ?_
        rintro e w8 ⟨a8, m8, cap8, rfl, hm8, hb8⟩
        have HB8 := Lib.hid (HB7.out.trans (hb8.mono HB7.out.size))
        have y := below_at HB8.out (lt_heap HX.out) HX.out
        have d0 : w8.cell? ⟨X, 0, none⟩ = some (.int .i64 1) := by simp [World.cell?, y]
        have d1 : w8.cell? ⟨X, 1, none⟩ = some (.int .i64 A) := by simp [World.cell?, y]
        have d2 : w8.cell? ⟨X, 2, none⟩ = some (.int .i64 L) := by simp [World.cell?, y]
        have d3 : w8.cell? ⟨X, 3, none⟩ = some (.string D) := by simp [World.cell?, y]
        have d4 : w8.cell? ⟨X, 4, none⟩ = some (.bool S) := by simp [World.cell?, y]
        clear y
        have FB := Lib.hid (HB4.out.trans (HB8.out.mono (Nat.le_trans hle (Nat.le_of_lt (lt_heap HX.out)))))
        clear hb8 HB7 HB8
        have hm9 : (0 : Int) < (m8 : Int) := by omega
        go_wp2_with fail
        go_ret
        exact ⟨rfl, FB.out⟩
  · rcases h02 with rfl | rfl
    · have hz : askSz 0 L D = L := rfl
      have hmay : AskMay 0 A L D n ↔ Inside A L n := by
        unfold AskMay
        rw [hz]
        exact ⟨fun h => h.elim (fun h => by omega) (fun h => h.2.2), fun h => .inr ⟨by omega, by omega, h⟩⟩
      obtain ⟨b, hbi⟩ : ∃ b, decide (Inside A L n) = b := ⟨_, rfl⟩
      have HBI := Lib.hid hbi
      have HM := Lib.hid hmay
      rw [hz] at cs
      clear hbi hmay hz
      go_upto_if 36 with fail
      go_cut [10] (fun v wx => v = .bool b ∧ wx = w4)
      case first =>
        go_wp2_with fail
        all_goals go_meet
        all_goals refine ⟨congrArg Value.bool ?_, rfl⟩
        all_goals try simp only [tmod32] at *
        all_goals rw [← HBI.out]
        all_goals (have w1 := wf_le HP.out.1; first | (symm; rw [decide_eq_false_iff_not]; unfold Inside; omega) | (rw [decide_eq_decide]; unfold Inside; rw [Int.tdiv_eq_ediv_of_nonneg (by omega)]; try unfold wrap64; omega))
      case rest =>
        obtain ⟨rfl, rfl⟩ := hcut
        cases b
        · have hno : ¬ AskMay 0 A L D n := fun h => by have := HBI.out; rw [decide_eq_false_iff_not] at this; exact this (HM.out.1 h)
          rw [if_neg hno] at cm
          have cp := fun w => (nparts_no 0 A L D S n w HP.out.1 HP.out.2.1 HP.out.2.2 (.inr hno)).mono fun e w' (h : _ ∧ _) => (⟨none, 0, 0, h.1, rfl, h.2⟩ : ∃ a m cap, e = .returned (.slice a m cap) ∧ m = 0 ∧ Below w.heap.size w w')
          unfold askA at cp
          clear hno
          go_wp2_with fail
          refine Calls.mono (cm _) ?_
          rintro e w5 ⟨rfl, hb5⟩
          have y := below_at hb5 (lt_heap HX.out) HX.out
          have d0 : w5.cell? ⟨X, 0, none⟩ = some (.int .i64 0) := by simp [World.cell?, y]
          have d1 : w5.cell? ⟨X, 1, none⟩ = some (.int .i64 A) := by simp [World.cell?, y]
          have d2 : w5.cell? ⟨X, 2, none⟩ = some (.int .i64 L) := by simp [World.cell?, y]
          have d3 : w5.cell? ⟨X, 3, none⟩ = some (.string D) := by simp [World.cell?, y]
          have d4 : w5.cell? ⟨X, 4, none⟩ = some (.bool S) := by simp [World.cell?, y]
          clear y
          have HB5 := Lib.hid hb5
          clear hb5
          go_wp2_with fail
          refine Calls.mono (awake28 _) ?_
          rintro e w6 ⟨rfl, hb6⟩
          have HB6 := Lib.hid (HB5.out.trans (hb6.mono HB5.out.size))
          have y := below_at HB6.out (lt_heap HX.out) HX.out
          have d0 : w6.cell? ⟨X, 0, none⟩ = some (.int .i64 0) := by simp [World.cell?, y]
          have d1 : w6.cell? ⟨X, 1, none⟩ = some (.int .i64 A) := by simp [World.cell?, y]
          have d2 : w6.cell? ⟨X, 2, none⟩ = some (.int .i64 L) := by simp [World.cell?, y]
          have d3 : w6.cell? ⟨X, 3, none⟩ = some (.string D) := by simp [World.cell?, y]
          have d4 : w6.cell? ⟨X, 4, none⟩ = some (.bool S) := by simp [World.cell?, y]
          clear y
          clear hb6 HB5
          go_wp2_with fail
          refine Calls.mono (cs _) ?_
          rintro e w7 ⟨rfl, hb7⟩
          have HB7 := Lib.hid (HB6.out.trans (hb7.mono HB6.out.size))
          have y := below_at HB7.out (lt_heap HX.out) HX.out
          have d0 : w7.cell? ⟨X, 0, none⟩ = some (.int .i64 0) := by simp [World.cell?, y]
          have d1 : w7.cell? ⟨X, 1, none⟩ = some (.int .i64 A) := by simp [World.cell?, y]
          have d2 : w7.cell? ⟨X, 2, none⟩ = some (.int .i64 L) := by simp [World.cell?, y]
          have d3 : w7.cell? ⟨X, 3, none⟩ = some (.string D) := by simp [World.cell?, y]
          have d4 : w7.cell? ⟨X, 4, none⟩ = some (.bool S) := by simp [World.cell?, y]
          clear y
          clear hb7 HB6
          go_wp2_with fail
          refine Calls.mono (cp _) ?_
          rintro e w8 ⟨a8, m8, cap8, rfl, hm8, hb8⟩
          have HB8 := Lib.hid (HB7.out.trans (hb8.mono HB7.out.size))
          have y := below_at HB8.out (lt_heap HX.out) HX.out
          have d0 : w8.cell? ⟨X, 0, none⟩ = some (.int .i64 0) := by simp [World.cell?, y]
          have d1 : w8.cell? ⟨X, 1, none⟩ = some (.int .i64 A) := by simp [World.cell?, y]
          have d2 : w8.cell? ⟨X, 2, none⟩ = some (.int .i64 L) := by simp [World.cell?, y]
          have d3 : w8.cell? ⟨X, 3, none⟩ = some (.string D) := by simp [World.cell?, y]
          have d4 : w8.cell? ⟨X, 4, none⟩ = some (.bool S) := by simp [World.cell?, y]
          clear y
          have FB := Lib.hid (HB4.out.trans (HB8.out.mono (Nat.le_trans hle (Nat.le_of_lt (lt_heap HX.out)))))
          clear hb8 HB7 HB8
          subst hm8
          go_wp2_with fail
          go_ret
          exact ⟨rfl, FB.out⟩
        · have hyes : AskMay 0 A L D n := HM.out.2 (by have := HBI.out; rwa [decide_eq_true_iff] at this)
          rw [if_pos hyes] at cm
          have cp := fun w => nparts_len 0 A L D S n w HP.out.1 HP.out.2.1 HP.out.2.2 (by decide) hyes
          unfold askA at cp
          clear hyes
          go_wp2_with fail
          refine Calls.mono (cm _) ?_
          rintro e w5 ⟨rfl, hb5⟩
          have y := below_at hb5 (lt_heap HX.out) HX.out
          have d0 : w5.cell? ⟨X, 0, none⟩ = some (.int .i64 0) := by simp [World.cell?, y]
          have d1 : w5.cell? ⟨X, 1, none⟩ = some (.int .i64 A) := by simp [World.cell?, y]
          have d2 : w5.cell? ⟨X, 2, none⟩ = some (.int .i64 L) := by simp [World.cell?, y]
          have d3 : w5.cell? ⟨X, 3, none⟩ = some (.string D) := by simp [World.cell?, y]
          have d4 : w5.cell? ⟨X, 4, none⟩ = some (.bool S) := by simp [World.cell?, y]
          clear y
          have HB5 := Lib.hid hb5
          clear hb5
          go_wp2_with fail
          refine Calls.mono (awake28 _) ?_
          rintro e w6 ⟨rfl, hb6⟩
          have HB6 := Lib.hid (HB5.out.trans (hb6.mono HB5.out.size))
          have y := below_at HB6.out (lt_heap HX.out) HX.out
          have d0 : w6.cell? ⟨X, 0, none⟩ = some (.int .i64 0) := by simp [World.cell?, y]
          have d1 : w6.cell? ⟨X, 1, none⟩ = some (.int .i64 A) := by simp [World.cell?, y]
          have d2 : w6.cell? ⟨X, 2, none⟩ = some (.int .i64 L) := by simp [World.cell?, y]
          have d3 : w6.cell? ⟨X, 3, none⟩ = some (.string D) := by simp [World.cell?, y]
          have d4 : w6.cell? ⟨X, 4, none⟩ = some (.bool S) := by simp [World.cell?, y]
          clear y
          clear hb6 HB5
          go_wp2_with fail
          refine Calls.mono (cs _) ?_
          rintro e w7 ⟨rfl, hb7⟩
          have HB7 := Lib.hid (HB6.out.trans (hb7.mono HB6.out.size))
          have y := below_at HB7.out (lt_heap HX.out) HX.out
          have d0 : w7.cell? ⟨X, 0, none⟩ = some (.int .i64 0) := by simp [World.cell?, y]
          have d1 : w7.cell? ⟨X, 1, none⟩ = some (.int .i64 A) := by simp [World.cell?, y]
          have d2 : w7.cell? ⟨X, 2, none⟩ = some (.int .i64 L) := by simp [World.cell?, y]
          have d3 : w7.cell? ⟨X, 3, none⟩ = some (.string D) := by simp [World.cell?, y]
          have d4 : w7.cell? ⟨X, 4, none⟩ = some (.bool S) := by simp [World.cell?, y]
          clear y
          clear hb7 HB6
          go_wp2_with fail
          refine Calls.mono (cp _) ?_
          rintro e w8 ⟨a8, m8, cap8, rfl, hm8, hb8⟩
          have HB8 := Lib.hid (HB7.out.trans (hb8.mono HB7.out.size))
          have y := below_at HB8.out (lt_heap HX.out) HX.out
          have d0 : w8.cell? ⟨X, 0, none⟩ = some (.int .i64 0) := by simp [World.cell?, y]
          have d1 : w8.cell? ⟨X, 1, none⟩ = some (.int .i64 A) := by simp [World.cell?, y]
          have d2 : w8.cell? ⟨X, 2, none⟩ = some (.int .i64 L) := by simp [World.cell?, y]
          have d3 : w8.cell? ⟨X, 3, none⟩ = some (.string D) := by simp [World.cell?, y]
          have d4 : w8.cell? ⟨X, 4, none⟩ = some (.bool S) := by simp [World.cell?, y]
          clear y
          have FB := Lib.hid (HB4.out.trans (HB8.out.mono (Nat.le_trans hle (Nat.le_of_lt (lt_heap HX.out)))))
          clear hb8 HB7 HB8
          have hm9 : (0 : Int) < (m8 : Int) := by omega
          go_wp2_with fail
          go_ret
          exact ⟨rfl, FB.out⟩
    · have hz : askSz 2 L D = L := rfl
      have hmay : AskMay 2 A L D n ↔ Inside A L n := by
        unfold AskMay
        rw [hz]
        exact ⟨fun h => h.elim (fun h => by omega) (fun h => h.2.2), fun h => .inr ⟨by omega, by omega, h⟩⟩
      obtain ⟨b, hbi⟩ : ∃ b, decide (Inside A L n) = b := ⟨_, rfl⟩
      have HBI := Lib.hid hbi
      have HM := Lib.hid hmay
      rw [hz] at cs
      clear hbi hmay hz
      go_upto_if 36 with fail
      go_cut [10] (fun v wx => v = .bool b ∧ wx = w4)
      case first =>
        go_wp2_with fail
        all_goals go_meet
        all_goals refine ⟨congrArg Value.bool ?_, rfl⟩
        all_goals try simp only [tmod32] at *
        all_goals rw [← HBI.out]
        all_goals (have w1 := wf_le HP.out.1; first | (symm; rw [decide_eq_false_iff_not]; unfold Inside; omega) | (rw [decide_eq_decide]; unfold Inside; rw [Int.tdiv_eq_ediv_of_nonneg (by omega)]; try unfold wrap64; omega))
      case rest =>
        obtain ⟨rfl, rfl⟩ := hcut
        cases b
        · have hno : ¬ AskMay 2 A L D n := fun h => by have := HBI.out; rw [decide_eq_false_iff_not] at this; exact this (HM.out.1 h)
          rw [if_neg hno] at cm
          have cp := fun w => (nparts_no 2 A L D S n w HP.out.1 HP.out.2.1 HP.out.2.2 (.inr hno)).mono fun e w' (h : _ ∧ _) => (⟨none, 0, 0, h.1, rfl, h.2⟩ : ∃ a m cap, e = .returned (.slice a m cap) ∧ m = 0 ∧ Below w.heap.size w w')
          unfold askA at cp
          clear hno
          go_wp2_with fail
          refine Calls.mono (cm _) ?_
          rintro e w5 ⟨rfl, hb5⟩
          have y := below_at hb5 (lt_heap HX.out) HX.out
          have d0 : w5.cell? ⟨X, 0, none⟩ = some (.int .i64 2) := by simp [World.cell?, y]
          have d1 : w5.cell? ⟨X, 1, none⟩ = some (.int .i64 A) := by simp [World.cell?, y]
          have d2 : w5.cell? ⟨X, 2, none⟩ = some (.int .i64 L) := by simp [World.cell?, y]
          have d3 : w5.cell? ⟨X, 3, none⟩ = some (.string D) := by simp [World.cell?, y]
          have d4 : w5.cell? ⟨X, 4, none⟩ = some (.bool S) := by simp [World.cell?, y]
          clear y
          have HB5 := Lib.hid hb5
          clear hb5
          go_wp2_with fail
          refine Calls.mono (awake28 _) ?_
          rintro e w6 ⟨rfl, hb6⟩
          have HB6 := Lib.hid (HB5.out.trans (hb6.mono HB5.out.size))
          have y := below_at HB6.out (lt_heap HX.out) HX.out
          have d0 : w6.cell? ⟨X, 0, none⟩ = some (.int .i64 2) := by simp [World.cell?, y]
          have d1 : w6.cell? ⟨X, 1, none⟩ = some (.int .i64 A) := by simp [World.cell?, y]
          have d2 : w6.cell? ⟨X, 2, none⟩ = some (.int .i64 L) := by simp [World.cell?, y]
          have d3 : w6.cell? ⟨X, 3, none⟩ = some (.string D) := by simp [World.cell?, y]
          have d4 : w6.cell? ⟨X, 4, none⟩ = some (.bool S) := by simp [World.cell?, y]
          clear y
          clear hb6 HB5
          go_wp2_with fail
          refine Calls.mono (cs _) ?_
          rintro e w7 ⟨rfl, hb7⟩
          have HB7 := Lib.hid (HB6.out.trans (hb7.mono HB6.out.size))
          have y := below_at HB7.out (lt_heap HX.out) HX.out
          have d0 : w7.cell? ⟨X, 0, none⟩ = some (.int .i64 2) := by simp [World.cell?, y]
          have d1 : w7.cell? ⟨X, 1, none⟩ = some (.int .i64 A) := by simp [World.cell?, y]
          have d2 : w7.cell? ⟨X, 2, none⟩ = some (.int .i64 L) := by simp [World.cell?, y]
          have d3 : w7.cell? ⟨X, 3, none⟩ = some (.string D) := by simp [World.cell?, y]
          have d4 : w7.cell? ⟨X, 4, none⟩ = some (.bool S) := by simp [World.cell?, y]
          clear y
          clear hb7 HB6
          go_wp2_with fail
          refine Calls.mono (cp _) ?_
          rintro e w8 ⟨a8, m8, cap8, rfl, hm8, hb8⟩
          have HB8 := Lib.hid (HB7.out.trans (hb8.mono HB7.out.size))
          have y := below_at HB8.out (lt_heap HX.out) HX.out
          have d0 : w8.cell? ⟨X, 0, none⟩ = some (.int .i64 2) := by simp [World.cell?, y]
          have d1 : w8.cell? ⟨X, 1, none⟩ = some (.int .i64 A) := by simp [World.cell?, y]
          have d2 : w8.cell? ⟨X, 2, none⟩ = some (.int .i64 L) := by simp [World.cell?, y]
          have d3 : w8.cell? ⟨X, 3, none⟩ = some (.string D) := by simp [World.cell?, y]
          have d4 : w8.cell? ⟨X, 4, none⟩ = some (.bool S) := by simp [World.cell?, y]
          clear y
          have FB := Lib.hid (HB4.out.trans (HB8.out.mono (Nat.le_trans hle (Nat.le_of_lt (lt_heap HX.out)))))
          clear hb8 HB7 HB8
          subst hm8
          go_wp2_with fail
          go_ret
          exact ⟨rfl, FB.out⟩
        · have hyes : AskMay 2 A L D n := HM.out.2 (by have := HBI.out; rwa [decide_eq_true_iff] at this)
          rw [if_pos hyes] at cm
          have cp := fun w => nparts_len 2 A L D S n w HP.out.1 HP.out.2.1 HP.out.2.2 (by decide) hyes
          unfold askA at cp
          clear hyes
          go_wp2_with fail
          refine Calls.mono (cm _) ?_
          rintro e w5 ⟨rfl, hb5⟩
          have y := below_at hb5 (lt_heap HX.out) HX.out
          have d0 : w5.cell? ⟨X, 0, none⟩ = some (.int .i64 2) := by simp [World.cell?, y]
          have d1 : w5.cell? ⟨X, 1, none⟩ = some (.int .i64 A) := by simp [World.cell?, y]
          have d2 : w5.cell? ⟨X, 2, none⟩ = some (.int .i64 L) := by simp [World.cell?, y]
          have d3 : w5.cell? ⟨X, 3, none⟩ = some (.string D) := by simp [World.cell?, y]
          have d4 : w5.cell? ⟨X, 4, none⟩ = some (.bool S) := by simp [World.cell?, y]
          clear y
          have HB5 := Lib.hid hb5
          clear hb5
          go_wp2_with fail
          refine Calls.mono (awake28 _) ?_
          rintro e w6 ⟨rfl, hb6⟩
          have HB6 := Lib.hid (HB5.out.trans (hb6.mono HB5.out.size))
          have y := below_at HB6.out (lt_heap HX.out) HX.out
          have d0 : w6.cell? ⟨X, 0, none⟩ = some (.int .i64 2) := by simp [World.cell?, y]
          have d1 : w6.cell? ⟨X, 1, none⟩ = some (.int .i64 A) := by simp [World.cell?, y]
          have d2 : w6.cell? ⟨X, 2, none⟩ = some (.int .i64 L) := by simp [World.cell?, y]
          have d3 : w6.cell? ⟨X, 3, none⟩ = some (.string D) := by simp [World.cell?, y]
          have d4 : w6.cell? ⟨X, 4, none⟩ = some (.bool S) := by simp [World.cell?, y]
          clear y
          clear hb6 HB5
          go_wp2_with fail
          refine Calls.mono (cs _) ?_
          rintro e w7 ⟨rfl, hb7⟩
          have HB7 := Lib.hid (HB6.out.trans (hb7.mono HB6.out.size))
          have y := below_at HB7.out (lt_heap HX.out) HX.out
          have d0 : w7.cell? ⟨X, 0, none⟩ = some (.int .i64 2) := by simp [World.cell?, y]
          have d1 : w7.cell? ⟨X, 1, none⟩ = some (.int .i64 A) := by simp [World.cell?, y]
          have d2 : w7.cell? ⟨X, 2, none⟩ = some (.int .i64 L) := by simp [World.cell?, y]
          have d3 : w7.cell? ⟨X, 3, none⟩ = some (.string D) := by simp [World.cell?, y]
          have d4 : w7.cell? ⟨X, 4, none⟩ = some (.bool S) := by simp [World.cell?, y]
          clear y
          clear hb7 HB6
          go_wp2_with fail
          refine Calls.mono (cp _) ?_
          rintro e w8 ⟨a8, m8, cap8, rfl, hm8, hb8⟩
          have HB8 := Lib.hid (HB7.out.trans (hb8.mono HB7.out.size))
          have y := below_at HB8.out (lt_heap HX.out) HX.out
          have d0 : w8.cell? ⟨X, 0, none⟩ = some (.int .i64 2) := by simp [World.cell?, y]
          have d1 : w8.cell? ⟨X, 1, none⟩ = some (.int .i64 A) := by simp [World.cell?, y]
          have d2 : w8.cell? ⟨X, 2, none⟩ = some (.int .i64 L) := by simp [World.cell?, y]
          have d3 : w8.cell? ⟨X, 3, none⟩ = some (.string D) := by simp [World.cell?, y]
          have d4 : w8.cell? ⟨X, 4, none⟩ = some (.bool S) := by simp [World.cell?, y]
          clear y
          have FB := Lib.hid (HB4.out.trans (HB8.out.mono (Nat.le_trans hle (Nat.le_of_lt (lt_heap HX.out)))))
          clear hb8 HB7 HB8
          have hm9 : (0 : Int) < (m8 : Int) := by omega
          go_wp2_with fail
          go_ret
          exact ⟨rfl, FB.out⟩
end Go.Proofs.Ytjpnbicnaeaacaa
