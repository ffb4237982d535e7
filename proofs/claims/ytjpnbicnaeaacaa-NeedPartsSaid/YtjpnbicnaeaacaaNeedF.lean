/-
  NeedParts.
-/
import Derived.Test.YtjpnbicnaeaacaaNeedE
import Derived.Test.YtjpnbicnaeaacaaEq
namespace Go.Proofs.Ytjpnbicnaeaacaa
open Go.RowKit
set_option linter.unusedVariables false
set_option linter.unusedSimpArgs false

theorem partkey : Try.prog.keyTypeAt 4 46 = true := by kernel_rfl
theorem partguard : Try.prog.eqGuardType Try.prog.depth 46 = false := by kernel_rfl
theorem part_lits (x : Int) (b : Bool) (s : ByteArray) (hx : (Lit.int .i64 x).wf = true) (hs : s.size ≤ maxLen) : Try.prog.keyLits 4 46 [.int .i64 x, .bool b, .string s] = some [.int .i64 x, .bool b, .string s.data.toList] := by
  have c1 : Try.prog.cellsOf 46 = 3 := by kernel_rfl
  have c2 : Try.prog.cellsOf 3 = 1 := by kernel_rfl
  have c3 : Try.prog.cellsOf 4 = 1 := by kernel_rfl
  have c4 : Try.prog.cellsOf 9 = 1 := by kernel_rfl
  simp [Program.keyLits, Try.underlying46, Try.underlying3, Try.underlying4, Try.underlying9, c1, c2, c3, c4, hx, hs]
theorem part_formed (x : Int) (b : Bool) (s : ByteArray) : (Value.agg #[.int .i64 x, .bool b, .string s]).formed Try.prog 46 = true := by kernel_rfl
theorem part_same (x : Int) (b : Bool) (s : ByteArray) (w : World) (hx : (Lit.int .i64 x).wf = true) (hs : s.size ≤ maxLen) :
    (binOp .neq 46 (.agg #[.int .i64 x, .bool b, .string s]) (.agg #[.int .i64 x, .bool b, .string s])).run Try.prog w = .ok (.bool false) w :=
  (eq_deep (m := 4) (D := 4) (D' := 4) partkey (by decide) (part_formed x b s) (part_formed x b s) (part_lits x b s hx hs) (part_lits x b s hx hs) true (by simp) w).2
theorem parts_get (W : Int) (q : Nat) (D : ByteArray) (m j i : Nat) (hj : j < m) (hi : i < 3) : (partsL W q D m)[j * 3 + i]? = (partK W q D j)[i]? := by
  induction m with
  | zero => omega
  | succ m ih =>
    rw [parts_succ]
    by_cases h : j < m
    · rw [List.getElem?_append_left (by rw [parts_len]; omega)]
      exact ih h
    · have : j = m := by omega
      subst this
      rw [List.getElem?_append_right (by rw [parts_len]; omega), parts_len, Nat.add_sub_cancel_left]
/-- what there is at each place -/
theorem parts_cells {w : World} {W : Int} {q m : Nat} {D : ByteArray} {v : Value} (h : SR w v 3 m (partsL W q D m)) (h0 : 0 < m) : ∃ b off cap, v = .slice (some ⟨b, off, none⟩) m cap ∧ m ≤ cap ∧ cap ≤ maxLen ∧ b < w.heap.size ∧ ∀ j, j < m →
    w.cell? ⟨b, off + j * 3, none⟩ = some (.int .i64 ((q + j : Nat) : Int)) ∧ w.cell? ⟨b, off + j * 3 + 1, none⟩ = some (.bool (!(W == 0))) ∧ w.cell? ⟨b, off + j * 3 + 2, none⟩ = some (.string (partD W D j)) := by
  obtain ⟨a, cap, rfl, h1, h2, h3, h4⟩ := h
  rcases h4 with h4 | ⟨b, off, rfl, hlt, hc⟩
  · omega
  · refine ⟨b, off, cap, rfl, h1, h2, hlt, fun j hj => ⟨?_, ?_, ?_⟩⟩
    · exact hc (j * 3 + 0) _ (by rw [parts_get W q D m j 0 hj (by decide)]; rfl)
    · exact hc (j * 3 + 1) _ (by rw [parts_get W q D m j 1 hj (by decide)]; rfl)
    · exact hc (j * 3 + 2) _ (by rw [parts_get W q D m j 2 hj (by decide)]; rfl)
set_option maxHeartbeats 12800000 in
set_option maxRecDepth 100000 in
theorem needparts_law (c : Array Value) (B k : Int) (w : World) (hf : Fits w (.two (.int .i64) (.two (.int .i64) (.two (.int .i64) (.two .str (.two .bool .unit))))) c.toList) (hB : (Lit.int .i64 B).wf = true) (hk : (Lit.int .i64 k).wf = true) :
    Calls Try.prog 5 #[.agg c, .int .i64 B, .int .i64 k] w fun e w' => e = .returned (.bool true) ∧ Below w.heap.size w w' := by
  obtain ⟨W0, A0, L0, D0, S0, rfl, q1, q2, q3, q4⟩ := fits_ask hf
  have hm : bits .and .i64 B 63 = B % 64 := mask_mod B 6 63 (by decide) (by decide)
  obtain ⟨n', hn'⟩ : ∃ n, B % 64 = n := ⟨_, rfl⟩
  rw [hn'] at hm
  have hn0 : 0 ≤ n' := by omega
  have hn1 : n' ≤ 63 := by omega
  have co := fun w => odd_any W0 A0 L0 D0 S0 (n' + 1) k w q1 q2 q3 (wf_of (by omega)) q4
  have hb1 : Below w.heap.size w (w.alloc (.cells (askA W0 A0 L0 D0 S0) 37)) := (Below.refl _ _).alloc (Nat.le_refl _) _
  unfold AskPost askA at *
  have HB1 := Lib.hid hb1
  clear hn' hf q1 q2 q3 q4 hb1
  go_enter Try.func5, Try.ntmps5
  go_wp2_with fail
  refine Calls.mono (co _) ?_
  rintro e w2 ⟨W, A, L, D, S, rfl, p1, p2, p3, p4, hb2⟩
  have hb3 : Below w.heap.size w w2 := HB1.out.trans (hb2.mono (by simp))
  have hx := heap_alloc_self w2 (.cells #[.int .i64 W, .int .i64 A, .int .i64 L, .string D, .bool S] 37)
  have hb4 : Below w.heap.size w (w2.alloc (.cells #[.int .i64 W, .int .i64 A, .int .i64 L, .string D, .bool S] 37)) := hb3.alloc (hb3.size) _
  obtain ⟨n, hnn⟩ : ∃ n, 1 + n' = n := ⟨_, rfl⟩
  have hnn' : n' + 1 = n := by omega
  have hle := hb3.size
  go_upto_region 3 with fail
  try rw [hnn']
  try rw [hnn]
  have hn2 : 1 ≤ n := by omega
  have hn3 : n ≤ 64 := by omega
  have cs := fun w => nsize W A L D S w
  have cm := fun w => nmay W A L D S n w p2 p3 p4
  generalize hw4 : w2.alloc (.cells #[.int .i64 W, .int .i64 A, .int .i64 L, .string D, .bool S] 37) = w4 at *
  obtain ⟨X, hX⟩ : ∃ X, w2.heap.size = X := ⟨_, rfl⟩
  rw [hX] at hx hle ⊢
  have d0 : w4.cell? ⟨X, 0, none⟩ = some (.int .i64 W) := by simp [World.cell?, hx]
  have d1 : w4.cell? ⟨X, 1, none⟩ = some (.int .i64 A) := by simp [World.cell?, hx]
  have d2 : w4.cell? ⟨X, 2, none⟩ = some (.int .i64 L) := by simp [World.cell?, hx]
  have d3 : w4.cell? ⟨X, 3, none⟩ = some (.string D) := by simp [World.cell?, hx]
  have d4 : w4.cell? ⟨X, 4, none⟩ = some (.bool S) := by simp [World.cell?, hx]
  have HX := Lib.hid hx
  have HB4 := Lib.hid hb4
  have HP := Lib.hid (And.intro p2 (And.intro p3 p4))
  clear hx hb4 hb2 hb3 co HB1 hw4 hX p1 p2 p3 p4 hnn hnn' hn0 hn1
  unfold askA at *
  by_cases h3 : W = 3 ∨ ¬ AskMay W A L D n
  · have cp := fun w => nparts_no W A L D S n w HP.out.1 HP.out.2.1 HP.out.2.2 h3
    unfold askA at cp
    have hres : (if AskMay W A L D n then (0 : Int) else 1) = 0 ∧ W = 3 ∨ (if AskMay W A L D n then (0 : Int) else 1) = 1 := by
      rcases h3 with h3 | h3
      · subst h3; rw [if_pos (.inl rfl)]; exact .inl ⟨rfl, rfl⟩
      · rw [if_neg h3]; exact .inr rfl
    clear h3
    rcases hres with ⟨hr, rfl⟩ | hr
    all_goals
      rw [hr] at cm
      clear hr
      go_wp2_with fail
      refine Calls.mono (cp _) ?_
      rintro e w5 ⟨rfl, hb5⟩
      have y := below_at hb5 (lt_heap HX.out) HX.out
      have d00 := d0
      have d0 := (hb5.cell (p := ⟨X, 0, none⟩) (lt_heap HX.out)).trans d0
      have d1 : w5.cell? ⟨X, 1, none⟩ = some (.int .i64 A) := by simp [World.cell?, y]
      have d2 : w5.cell? ⟨X, 2, none⟩ = some (.int .i64 L) := by simp [World.cell?, y]
      have d3 : w5.cell? ⟨X, 3, none⟩ = some (.string D) := by simp [World.cell?, y]
      have d4 : w5.cell? ⟨X, 4, none⟩ = some (.bool S) := by simp [World.cell?, y]
      have HB5 := Lib.hid hb5
      clear hb5 y
      go_wp2_with fail
      refine Calls.mono (cm _) ?_
      rintro e w6 ⟨rfl, hb6⟩
      have HB6 := Lib.hid (HB5.out.trans (hb6.mono HB5.out.size))
      have y := below_at HB6.out (lt_heap HX.out) HX.out
      have d0 := (HB6.out.cell (p := ⟨X, 0, none⟩) (lt_heap HX.out)).trans d00
      clear hb6 HB5 y
      go_wp2_with fail
      refine Calls.mono (awake28 _) ?_
      rintro e w7 ⟨rfl, hb7⟩
      have FB := Lib.hid (HB4.out.trans ((HB6.out.trans (hb7.mono HB6.out.size)).mono (Nat.le_trans hle (Nat.le_of_lt (lt_heap HX.out)))))
      go_wp2_with fail
      go_ret
      exact ⟨rfl, FB.out⟩
  · have hw3 : W ≠ 3 := fun h => h3 (.inl h)
    have hyes : AskMay W A L D n := Decidable.of_not_not fun h => h3 (.inr h)
    have hin : Inside A (askSz W L D) n := hyes.elim (fun h => absurd h hw3) (fun h => h.2.2)
    have hWr : W = 0 ∨ W = 1 ∨ W = 2 := by have := hyes.elim (fun h => absurd h hw3) (fun h => And.intro h.1 h.2.1); omega
    unfold Inside at hin
    obtain ⟨q, hq⟩ : ∃ q : Nat, A = ((32 * q : Nat) : Int) := ⟨(A / 32).toNat, by omega⟩
    obtain ⟨m, hm'⟩ : ∃ m : Nat, askSz W L D = ((32 * m : Nat) : Int) := ⟨(askSz W L D / 32).toNat, by omega⟩
    have hm0 : 0 < m := by omega
    have hm4 : m ≤ 4 := by omega
    have hqm : ((q + m : Nat) : Int) ≤ n := by omega
    have hds : W = 1 → D.size = 32 * m := fun h => by rw [askSz, if_pos h] at hm'; omega
    rw [if_pos hyes] at cm
    have hpq : AskMay W ((32 * q : Nat) : Int) L D n := by rw [← hq]; exact hyes
    have cp := fun w => nparts W L q m D S n w HP.out.2.1 HP.out.2.2 hw3 hpq hm'
    rw [← hq] at cp
    rw [hm'] at cs
    have HQ := Lib.hid hq
    have HQM := Lib.hid hqm
    have HDS := Lib.hid hds
    unfold askA at cp
    have e3 : (W == 3) = false := by rw [beq_eq_false_iff_ne]; exact hw3
    clear h3 hyes hin hq hm' hpq hqm hds hw3 hm
    go_wp2_with fail
    refine Calls.mono (cp _) ?_
    rintro e w5 ⟨v, rfl, hv, hb5⟩
    obtain ⟨b, off, cap, rfl, hmc, hcm, hbl, hcell⟩ := parts_cells (SR.owns hv) hm0
    have y := below_at hb5 (lt_heap HX.out) HX.out
    have d0 : w5.cell? ⟨X, 0, none⟩ = some (.int .i64 W) := by simp [World.cell?, y]
    have d1 : w5.cell? ⟨X, 1, none⟩ = some (.int .i64 A) := by simp [World.cell?, y]
    have d2 : w5.cell? ⟨X, 2, none⟩ = some (.int .i64 L) := by simp [World.cell?, y]
    have d3 : w5.cell? ⟨X, 3, none⟩ = some (.string D) := by simp [World.cell?, y]
    have d4 : w5.cell? ⟨X, 4, none⟩ = some (.bool S) := by simp [World.cell?, y]
    clear y
    have HB5 := Lib.hid hb5
    have HV := Lib.hid hcell
    clear hb5 hv hcell cp
    unfold maxLen at hcm
    go_wp2_with fail
    refine Calls.mono (cm _) ?_
    rintro e w6 ⟨rfl, hb6⟩
    have HB6 := Lib.hid (HB5.out.trans (hb6.mono HB5.out.size))
    have HC6 := Lib.hid hb6
    have y := below_at HB6.out (lt_heap HX.out) HX.out
    have d0 : w6.cell? ⟨X, 0, none⟩ = some (.int .i64 W) := by simp [World.cell?, y]
    have d1 : w6.cell? ⟨X, 1, none⟩ = some (.int .i64 A) := by simp [World.cell?, y]
    have d2 : w6.cell? ⟨X, 2, none⟩ = some (.int .i64 L) := by simp [World.cell?, y]
    have d3 : w6.cell? ⟨X, 3, none⟩ = some (.string D) := by simp [World.cell?, y]
    have d4 : w6.cell? ⟨X, 4, none⟩ = some (.bool S) := by simp [World.cell?, y]
    clear y
    clear hb6 cm
    go_wp2_with fail
    refine Calls.mono (cs _) ?_
    rintro e w7 ⟨rfl, hb7⟩
    have HB7 := Lib.hid (HB6.out.trans (hb7.mono HB6.out.size))
    have HC7 := Lib.hid (HC6.out.trans (hb7.mono HC6.out.size))
    clear hb7 HB6 HC6 cs
    have hz7 := HB7.out.size
    have hz5 := HC7.out.size
    have e32 : ((m : Int) * 32) = ((32 * m : Nat) : Int) := by omega
    have e33 : IntKind.i64.wrap ((m : Int) * 32) = ((32 * m : Nat) : Int) := by rw [IntWalk.i64_in _ (by omega)]; omega
    go_wp2_with fail
    go_loopw [10] (fun i wr => ∃ j : Nat, j ≤ m ∧ i = .int .i64 j ∧ Below w7.heap.size w7 wr) (fun i _ => m - (intOf i).toNat)
    case atStart => exact ⟨0, Nat.zero_le _, rfl, Below.refl _ _⟩
    case round =>
      obtain ⟨j, hj, rfl, hbr⟩ := hrel
      have HR := Lib.hid hbr
      clear hbr
      by_cases hlt : j < m
      · have hcell := HV.out j hlt
        have hB5r : Below w5.heap.size w5 wr := HC7.out.trans (HR.out.mono hz5)
        have l0 : wr.cell? ⟨b, off + j * 3, none⟩ = _ := (hB5r.cell (p := ⟨b, _, none⟩) hbl).trans hcell.1
        have l1 : wr.cell? ⟨b, off + j * 3 + 1, none⟩ = _ := (hB5r.cell (p := ⟨b, _, none⟩) hbl).trans hcell.2.1
        have l2 : wr.cell? ⟨b, off + j * 3 + 2, none⟩ = _ := (hB5r.cell (p := ⟨b, _, none⟩) hbl).trans hcell.2.2
        have hX7 := HB7.out.trans (HR.out.mono hz7)
        have y := below_at hX7 (lt_heap HX.out) HX.out
        have d0 : wr.cell? ⟨X, 0, none⟩ = some (.int .i64 W) := by simp [World.cell?, y]
        have d1 : wr.cell? ⟨X, 1, none⟩ = some (.int .i64 A) := by simp [World.cell?, y]
        have d3 : wr.cell? ⟨X, 3, none⟩ = some (.string D) := by simp [World.cell?, y]
        have hXr : X < wr.heap.size := lt_heap y
        have hbr : b < wr.heap.size := Nat.lt_of_lt_of_le hbl hB5r.size
        obtain ⟨qk, hqk⟩ : ∃ x : Int, ((q + j : Nat) : Int) = x := ⟨_, rfl⟩
        obtain ⟨Q, hQ⟩ : ∃ x : Int, (q : Int) = x := ⟨_, rfl⟩
        have hdv : A.tdiv 32 = Q := by
          have := HQ.out
          rw [Int.tdiv_eq_ediv_of_nonneg (by omega)]
          omega
        have hadd : Q + (j : Int) = qk := by omega
        have hq0 : 0 ≤ qk := by omega
        have hq1 : qk ≤ 64 := by have := HQM.out; omega
        have hQ0 : 0 ≤ Q := by omega
        have hqn : decide (n ≤ qk) = false := by rw [decide_eq_false_iff_not]; have := HQM.out; omega
        have hwr : IntKind.i64.wrap (Q + (j : Int)) = qk := by rw [hadd]; exact IntWalk.i64_in _ (by omega)
        rw [hqk] at l0
        have hj1 : (j : Int) < (m : Int) := by omega
        have hj4 : j ≤ 3 := by omega
        clear hcell y hB5r hX7
        obtain ⟨P, hP⟩ : ∃ P, wr.heap.size = P := ⟨_, rfl⟩
        have hwf : (Lit.int .i64 qk).wf = true := wf_of (by omega)
        have HJ := Lib.hid hlt
        rcases hWr with rfl | rfl | rfl
        · have hD : partD 0 D j = ⟨#[]⟩ := rfl
          have hns := fun w => part_same qk false ⟨#[]⟩ w hwf (by decide)
          have hg := partguard
          rw [hD] at l2
          have hbb : (!((0 : Int) == 0)) = false := rfl
          rw [hbb] at l1
          skip
          clear hD hbb
          go_upto_region 12 with fail
          have b4 : Below P wr (wr.alloc (.cells #[.int .i64 qk, .bool false, .string ⟨#[]⟩] 46)) := (Below.refl _ _).alloc (Nat.le_of_eq hP.symm) _
          have p4 := heap_alloc_self wr (.cells #[.int .i64 qk, .bool false, .string ⟨#[]⟩] 46)
          rw [hP] at p4 hXr hbr
          try rw [hP]
          generalize wr.alloc (.cells #[.int .i64 qk, .bool false, .string ⟨#[]⟩] 46) = w8 at *
          have c0 : w8.cell? ⟨X, 0, none⟩ = some (.int .i64 0) := (b4.cell (p := ⟨X, 0, none⟩) hXr).trans d0
          have c3 : w8.cell? ⟨X, 3, none⟩ = some (.string D) := (b4.cell (p := ⟨X, 3, none⟩) hXr).trans d3
          have f2 : w8.frozen? ⟨P, 2, none⟩ = false := by simp [World.frozen?, p4]
          have g2 : w8.cell? ⟨P, 2, none⟩ = some (.string ⟨#[]⟩) := by simp [World.cell?, p4]
          obtain ⟨w9, hw9⟩ : ∃ x, w8 = x := ⟨_, rfl⟩
          have e5 := p4
          have b5 := b4
          subst hw9
          go_upto_region 16 with fail
          have r0 : w8.cell? ⟨P, 0, none⟩ = some (.int .i64 qk) := by simp [World.cell?, e5]
          have r1 : w8.cell? ⟨P, 1, none⟩ = some (.bool false) := by simp [World.cell?, e5]
          have r2 : w8.cell? ⟨P, 2, none⟩ = some (.string ⟨#[]⟩) := by simp [World.cell?, e5]
          have m0 : w8.cell? ⟨b, off + j * 3, none⟩ = some (.int .i64 qk) := (b5.cell (p := ⟨b, _, none⟩) hbr).trans l0
          have m1 : w8.cell? ⟨b, off + j * 3 + 1, none⟩ = some (.bool false) := (b5.cell (p := ⟨b, _, none⟩) hbr).trans l1
          have m2 : w8.cell? ⟨b, off + j * 3 + 2, none⟩ = some (.string ⟨#[]⟩) := (b5.cell (p := ⟨b, _, none⟩) hbr).trans l2
          have HW := Lib.hid (HR.out.trans (b5.mono (by rw [← hP]; exact HR.out.size)))
          clear e5 b5  l0 l1 l2 d0 d1 d3
          go_quiet (fail)
          go_wp2_with fail
          go_roundw
          case rel => exact ⟨j + 1, by omega, by go_num, below_drewN' HW.out _⟩
          case measure => have := HJ.out; simp [intOf]; omega
        · have hD : partD 1 D j = (D.extract (32 * j) (32 * j + 32)) := by { unfold partD; rw [if_pos rfl] }
          have hns := fun w => part_same qk true (D.extract (32 * j) (32 * j + 32)) w hwf (by { rw [ByteArray.size_extract]; unfold maxLen; omega })
          have hg := partguard
          rw [hD] at l2
          have hbb : (!((1 : Int) == 0)) = true := rfl
          rw [hbb] at l1
          have hds : (32 : Int) * (j : Int) + 32 ≤ (D.size : Int) := by { have := HDS.out rfl; have := HJ.out; omega }
          clear hD hbb
          go_upto_region 12 with fail
          have b4 : Below P wr (wr.alloc (.cells #[.int .i64 qk, .bool true, .string ⟨#[]⟩] 46)) := (Below.refl _ _).alloc (Nat.le_of_eq hP.symm) _
          have p4 := heap_alloc_self wr (.cells #[.int .i64 qk, .bool true, .string ⟨#[]⟩] 46)
          rw [hP] at p4 hXr hbr
          try rw [hP]
          generalize wr.alloc (.cells #[.int .i64 qk, .bool true, .string ⟨#[]⟩] 46) = w8 at *
          have c0 : w8.cell? ⟨X, 0, none⟩ = some (.int .i64 1) := (b4.cell (p := ⟨X, 0, none⟩) hXr).trans d0
          have c3 : w8.cell? ⟨X, 3, none⟩ = some (.string D) := (b4.cell (p := ⟨X, 3, none⟩) hXr).trans d3
          have f2 : w8.frozen? ⟨P, 2, none⟩ = false := by simp [World.frozen?, p4]
          have g2 : w8.cell? ⟨P, 2, none⟩ = some (.string ⟨#[]⟩) := by simp [World.cell?, p4]
          go_upto_region 16 with fail
          have e5 := heap_set_self p4 2 (.string (D.extract (32 * j) (32 * j + 32)))
          have b5 : Below P wr (w8.setCell ⟨P, 2, none⟩ (.string (D.extract (32 * j) (32 * j + 32)))) := b4.setCell (Nat.le_refl _) _
          generalize w8.setCell ⟨P, 2, none⟩ (.string (D.extract (32 * j) (32 * j + 32))) = w9 at *
          have r0 : w9.cell? ⟨P, 0, none⟩ = some (.int .i64 qk) := by simp [World.cell?, e5]
          have r1 : w9.cell? ⟨P, 1, none⟩ = some (.bool true) := by simp [World.cell?, e5]
          have r2 : w9.cell? ⟨P, 2, none⟩ = some (.string (D.extract (32 * j) (32 * j + 32))) := by simp [World.cell?, e5]
          have m0 : w9.cell? ⟨b, off + j * 3, none⟩ = some (.int .i64 qk) := (b5.cell (p := ⟨b, _, none⟩) hbr).trans l0
          have m1 : w9.cell? ⟨b, off + j * 3 + 1, none⟩ = some (.bool true) := (b5.cell (p := ⟨b, _, none⟩) hbr).trans l1
          have m2 : w9.cell? ⟨b, off + j * 3 + 2, none⟩ = some (.string (D.extract (32 * j) (32 * j + 32))) := (b5.cell (p := ⟨b, _, none⟩) hbr).trans l2
          have HW := Lib.hid (HR.out.trans (b5.mono (by rw [← hP]; exact HR.out.size)))
          clear e5 b5 p4 b4 l0 l1 l2 d0 d1 d3
          go_quiet (fail)
          go_wp2_with fail
          go_roundw
          case rel => exact ⟨j + 1, by omega, by go_num, below_drewN' HW.out _⟩
          case measure => have := HJ.out; simp [intOf]; omega
        · have hD : partD 2 D j = (zeroL 32) := rfl
          have hns := fun w => part_same qk true (zeroL 32) w hwf (by decide)
          have hg := partguard
          rw [hD] at l2
          have hbb : (!((2 : Int) == 0)) = true := rfl
          rw [hbb] at l1
          skip
          clear hD hbb
          go_upto_region 12 with fail
          have b4 : Below P wr (wr.alloc (.cells #[.int .i64 qk, .bool true, .string ⟨#[]⟩] 46)) := (Below.refl _ _).alloc (Nat.le_of_eq hP.symm) _
          have p4 := heap_alloc_self wr (.cells #[.int .i64 qk, .bool true, .string ⟨#[]⟩] 46)
          rw [hP] at p4 hXr hbr
          try rw [hP]
          generalize wr.alloc (.cells #[.int .i64 qk, .bool true, .string ⟨#[]⟩] 46) = w8 at *
          have c0 : w8.cell? ⟨X, 0, none⟩ = some (.int .i64 2) := (b4.cell (p := ⟨X, 0, none⟩) hXr).trans d0
          have c3 : w8.cell? ⟨X, 3, none⟩ = some (.string D) := (b4.cell (p := ⟨X, 3, none⟩) hXr).trans d3
          have f2 : w8.frozen? ⟨P, 2, none⟩ = false := by simp [World.frozen?, p4]
          have g2 : w8.cell? ⟨P, 2, none⟩ = some (.string ⟨#[]⟩) := by simp [World.cell?, p4]
          go_upto_region 13 with fail
          go_wp2_with fail
          refine Calls.mono (zeros_any _) ?_
          rintro e wz ⟨rfl, rfl⟩
          go_upto_region 16 with fail
          have e5 := heap_set_self p4 2 (.string (zeroL 32))
          have b5 : Below P wr (w8.setCell ⟨P, 2, none⟩ (.string (zeroL 32))) := b4.setCell (Nat.le_refl _) _
          generalize w8.setCell ⟨P, 2, none⟩ (.string (zeroL 32)) = w9 at *
          have r0 : w9.cell? ⟨P, 0, none⟩ = some (.int .i64 qk) := by simp [World.cell?, e5]
          have r1 : w9.cell? ⟨P, 1, none⟩ = some (.bool true) := by simp [World.cell?, e5]
          have r2 : w9.cell? ⟨P, 2, none⟩ = some (.string (zeroL 32)) := by simp [World.cell?, e5]
          have m0 : w9.cell? ⟨b, off + j * 3, none⟩ = some (.int .i64 qk) := (b5.cell (p := ⟨b, _, none⟩) hbr).trans l0
          have m1 : w9.cell? ⟨b, off + j * 3 + 1, none⟩ = some (.bool true) := (b5.cell (p := ⟨b, _, none⟩) hbr).trans l1
          have m2 : w9.cell? ⟨b, off + j * 3 + 2, none⟩ = some (.string (zeroL 32)) := (b5.cell (p := ⟨b, _, none⟩) hbr).trans l2
          have HW := Lib.hid (HR.out.trans (b5.mono (by rw [← hP]; exact HR.out.size)))
          clear e5 b5 p4 b4 l0 l1 l2 d0 d1 d3
          go_quiet (fail)
          go_wp2_with fail
          go_roundw
          case rel => exact ⟨j + 1, by omega, by go_num, below_drewN' HW.out _⟩
          case measure => have := HJ.out; simp [intOf]; omega
      · have : j = m := by omega
        subst this
        go_wp2_with fail
        refine Calls.mono (awake28 _) ?_
        rintro e w9 ⟨rfl, hb9⟩
        have FB := Lib.hid (HB4.out.trans ((HB7.out.trans ((HR.out.trans (hb9.mono HR.out.size)).mono hz7)).mono (Nat.le_trans hle (Nat.le_of_lt (lt_heap HX.out)))))
        go_wp2_with fail
        go_ret
        exact ⟨rfl, FB.out⟩
end Go.Proofs.Ytjpnbicnaeaacaa
