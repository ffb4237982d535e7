/-
  SuperTwice.
-/
import Derived.Test.YtcoliadgnbhkaaaSuperL
namespace Go.Proofs.Ytcoliadgnbhkaaa
open Go.RowKit
set_option linter.unusedVariables false
set_option linter.unusedSimpArgs false

theorem fits_strs3 {w : World} {c : Array Value} (h : Fits w (Sh.rep .str 3) c.toList) : ∃ a b d : ByteArray, c = #[.string a, .string b, .string d] ∧ a.size ≤ maxLen ∧ b.size ≤ maxLen ∧ d.size ≤ maxLen := by
  obtain ⟨x, y, e, ⟨a, rfl, ha⟩, x2, y2, rfl, ⟨b, rfl, hb⟩, x3, y3, rfl, ⟨d, rfl, hd⟩, rfl⟩ := h
  exact ⟨a, b, d, by cases c; simp_all, ha, hb, hd⟩
theorem fits_u6 {w : World} {c : Array Value} (h : Fits w (Sh.rep (.int .u64) 6) c.toList) : ∃ u : Nat → Nat, c = #[.int .u64 (u 0), .int .u64 (u 1), .int .u64 (u 2), .int .u64 (u 3), .int .u64 (u 4), .int .u64 (u 5)] ∧ ∀ j, u j < 18446744073709551616 := by
  obtain ⟨x, y, e, ⟨z0, rfl, h0⟩, x2, y2, rfl, ⟨z1, rfl, h1⟩, x3, y3, rfl, ⟨z2, rfl, h2⟩, x4, y4, rfl, ⟨z3, rfl, h3⟩, x5, y5, rfl, ⟨z4, rfl, h4⟩, x6, y6, rfl, ⟨z5, rfl, h5⟩, rfl⟩ := h
  obtain ⟨n0, rfl, l0⟩ := wf_u64 h0
  obtain ⟨n1, rfl, l1⟩ := wf_u64 h1
  obtain ⟨n2, rfl, l2⟩ := wf_u64 h2
  obtain ⟨n3, rfl, l3⟩ := wf_u64 h3
  obtain ⟨n4, rfl, l4⟩ := wf_u64 h4
  obtain ⟨n5, rfl, l5⟩ := wf_u64 h5
  refine ⟨fun j => if j = 0 then n0 else if j = 1 then n1 else if j = 2 then n2 else if j = 3 then n3 else if j = 4 then n4 else n5, by cases c; simp_all, fun j => ?_⟩
  simp only
  repeat' split
  all_goals assumption
theorem u6_at {w : World} {q : Nat} {t : TypeId} {u : Nat → Nat} (h : w.heap[q]? = some (.cells #[.int .u64 (u 0), .int .u64 (u 1), .int .u64 (u 2), .int .u64 (u 3), .int .u64 (u 4), .int .u64 (u 5)] t)) (j : Nat) (hj : j < 6) : w.cell? ⟨q, j, none⟩ = some (.int .u64 (u j)) := by
  have : j = 0 ∨ j = 1 ∨ j = 2 ∨ j = 3 ∨ j = 4 ∨ j = 5 := by omega
  rcases this with rfl | rfl | rfl | rfl | rfl | rfl <;> simp [World.cell?, h]
theorem pcrash2 {w : World} {N p at' M n : Nat} {sv lv : Value} {S : List ByteArray} {a b last s : ByteArray} (h : PWr w N p sv lv S a b at' last M n s) (hM : M + 2 ≤ 1000000000) (hMn : M ≤ n) (u : Nat) (hu : u < 18446744073709551616) (hf : fateU u 0 ≠ 1) : Calls Try.prog 18 #[.pointer (some ⟨p, 0, none⟩), .int .u64 u] w fun e w' => e = .returned (.tuple #[]) ∧ (∃ S' a' b', PDsk w' N p sv S' a' b' at' last (M + 2)) ∧ Below N w w' := by
  refine (dcrash u hu w N p sv lv S _ h.dsk (by simp)).mono fun e w' hh => ⟨hh.1, ?_, hh.2.2.below⟩
  have h1 := h.le
  obtain ⟨a', b', e0, e1, hp⟩ := h.pair.fate (f := fateU u 0) h.gt (by omega) h.other h.word hMn S h.s0 h.s1
  exact ⟨fateS (fateU u 0 : Nat) S (n % 2, putS n s), a', b', hh.2.1, e0, e1, (hp.resolve_left (fun h => hf h.1)).2.more h1, hM⟩
theorem next_nil (w : World) : Calls Try.prog 28 #[.pointer none, .int .i64 0] w fun e w' => e = .returned (.int .u64 1) ∧ Below w.heap.size w w' := by
  have hr : Reads2 (.pointer none) w 0 ⟨#[]⟩ ⟨#[]⟩ (if false = true then 0 else 1) (if false = true then 0 else 1) := by
    intro j w' hj hb
    have c := dread0 (wrap64 (0 + j)) w'
    simpa [rAt] using c
  exact snext (.pointer none) 0 ⟨#[]⟩ ⟨#[]⟩ false false w (by omega) hr (fun h => by cases h) (fun h => by cases h)
theorem PDsk.tight {w : World} {N p at' M : Nat} {sv : Value} {S : List ByteArray} {a b last : ByteArray} (h : PDsk w N p sv S a b at' last M) : PDsk w N p sv S a b at' last (top4 a b) :=
  ⟨h.dsk, h.s0, h.s1, ⟨h.pair.sa, h.pair.sb, Nat.le_refl _, h.pair.zero, h.pair.even, h.pair.odd⟩, Nat.le_trans h.pair.most h.small⟩
theorem PDsk.loose {w : World} {N p at' M M' : Nat} {sv : Value} {S : List ByteArray} {a b last : ByteArray} (h : PDsk w N p sv S a b at' last M) (hM : M ≤ M') (hs : M' ≤ 1000000000) : PDsk w N p sv S a b at' last M' := ⟨h.dsk, h.s0, h.s1, h.pair.more hM, hs⟩
/-- what the loop keeps: the first word, whole -/
def TwR (wr w2 : World) (N p i : Nat) (sv : Value) (last : ByteArray) : Prop := (∃ S a b, PDsk wr N p sv S a b 1 last (3 + 2 * i)) ∧ Below N w2 wr
theorem mask1 (x : Int) : bits .and .i64 x 1 = x % 2 := mask_mod x 1 1 (by decide) (by decide)
theorem first_next : nextP (zeroL 64) (zeroL 64) 0 = 1 := by decide
set_option maxHeartbeats 6400000 in
set_option maxRecDepth 100000 in
theorem supertwice_law (c0 c1 : Array Value) (many : Int) (w : World) (f0 : Fits w (Sh.rep .str 3) c0.toList) (f1 : Fits w (Sh.rep (.int .u64) 6) c1.toList) (hm : (Lit.int .i64 many).wf = true) :
    Calls Try.prog 8 #[.agg c0, .agg c1, .int .i64 many] w fun e w' => e = .returned (.bool true) ∧ Below w.heap.size w w' := by
  obtain ⟨s0, s1, s2, rfl, hs0, hs1, hs2⟩ := fits_strs3 f0
  obtain ⟨u, rfl, hu⟩ := fits_u6 f1
  obtain ⟨t0, E0, h0a, h0b, h0c, h0d, h0e⟩ := cut48 s0 hs0
  obtain ⟨t1, E1, h1a, h1b, h1c, h1d, h1e⟩ := cut48 s1 hs1
  obtain ⟨t2, E2, h2a, h2b, h2c, h2d, h2e⟩ := cut48 s2 hs2
  have hmm := mask7 many
  obtain ⟨K, hK⟩ : ∃ K, many % 8 = K := ⟨_, rfl⟩
  have hK1 : K ≤ 7 := by omega
  rw [hK] at hmm
  have ca := fun w => awake05 w
  have hx : ∃ W, W = (w.alloc (.cells #[.string s0, .string s1, .string s2] 58)).alloc (.cells #[.int .u64 (u 0), .int .u64 (u 1), .int .u64 (u 2), .int .u64 (u 3), .int .u64 (u 4), .int .u64 (u 5)] 59) ∧ W.heap[w.heap.size]? = some (.cells #[.string s0, .string s1, .string s2] 58) ∧ W.heap[w.heap.size + 1]? = some (.cells #[.int .u64 (u 0), .int .u64 (u 1), .int .u64 (u 2), .int .u64 (u 3), .int .u64 (u 4), .int .u64 (u 5)] 59) ∧ Below w.heap.size w W := by
    refine ⟨_, rfl, ?_, ?_, ((Below.refl _ _).alloc (Nat.le_refl _) _).alloc (by simp) _⟩
    · rw [Below.heap_alloc _ _ _ (by simp)]
      exact heap_alloc_self _ _
    · have := heap_alloc_self (w.alloc (.cells #[.string s0, .string s1, .string s2] 58)) (.cells #[.int .u64 (u 0), .int .u64 (u 1), .int .u64 (u 2), .int .u64 (u 3), .int .u64 (u 4), .int .u64 (u 5)] 59)
      simpa using this
  obtain ⟨W, hW, hx0, hx1, hbW⟩ := hx
  unfold maxLen at hs0 hs1 hs2
  have HX0 := Lib.hid hx0
  have HX1 := Lib.hid hx1
  have HBW := Lib.hid hbW
  clear f0 f1 hm hK hx0 hx1 hbW
  go_enter Try.func8, Try.ntmps8
  go_upto_region 1 with fail
  rw [← hW]
  obtain ⟨q, hq⟩ : ∃ q, w.heap.size = q := ⟨_, rfl⟩
  rw [hq] at HX0 HX1 HBW ⊢
  clear hW
  have hqq : q + 1 < W.heap.size := lt_heap HX1.out
  obtain ⟨N, hN⟩ : ∃ N, W.heap.size = N := ⟨_, rfl⟩
  have cn := dnew 2 W (by omega) (by omega)
  rw [hN] at hqq
  have HN := Lib.hid hN
  clear hN
  have d0 : ∀ w', Below N W w' → w'.cell? ⟨q, 0, none⟩ = some (.string s0) ∧ w'.cell? ⟨q, 1, none⟩ = some (.string s1) ∧ w'.cell? ⟨q, 2, none⟩ = some (.string s2) ∧ ∀ j, j < 6 → w'.cell? ⟨q + 1, j, none⟩ = some (.int .u64 (u j)) := by
    intro w' hb
    have a0 := (hb.block q (by omega)).trans HX0.out
    have a1 := (hb.block (q + 1) hqq).trans HX1.out
    exact ⟨by simp [World.cell?, a0], by simp [World.cell?, a0], by simp [World.cell?, a0], fun j hj => u6_at a1 j hj⟩
  have D0 := Lib.hid d0
  clear d0
  go_wp2_with fail
  refine Calls.mono cn ?_
  rintro e w1 ⟨p, sv, rfl, hd, hb⟩
  rw [HN.out] at hd hb
  have HP := Lib.hid (fresh_pdsk hd (by omega))
  have HB := Lib.hid hb
  clear hd hb cn
  obtain ⟨c0, _, _, _⟩ := D0.out w1 HB.out
  have hNw1 : N ≤ w1.heap.size := by have := HB.out.size; have := HN.out; omega
  have cN := fun (w' : World) (hb : Below w1.heap.size w1 w') => pnext (HP.out.below hb)
  have cW := fun (w' : World) (hb : Below w1.heap.size w1 w') => pwrite (HP.out.below hb) E0 h0e
  simp only [first_next] at cN cW
  go_upto_region 2 with fail
  go_cut [9] (fun e wx => e = .int .i64 0 ∧ ∃ lv, PWr wx N p sv lv (freshS 2) (zeroL 64) (zeroL 64) 0 ⟨#[]⟩ 0 1 E0 ∧ Below N W wx)
  case first =>
    go_region_with (first | (go_at_call 28; refine Calls.mono (cN _ (below_drew' (Below.refl _ _))) ?_; rintro e wz ⟨rfl, hz⟩; have hz2 : Below w1.heap.size w1 wz := below_of_drew hz; have cz := (D0.out wz (HB.out.trans (hz2.mono hNw1))).1) | (go_at_call 27; refine Calls.mono (cW _ (by assumption)) ?_; rintro e wy ⟨rfl, lv, hpw, hy⟩))
    all_goals
      go_wp2_with fail
      go_meet
      exact ⟨rfl, lv, hpw, (HB.out.trans (hz2.mono hNw1)).trans hy⟩
  case rest =>
    obtain ⟨rfl, lv, hpw, hb⟩ := hcut
    have HW := Lib.hid hpw
    have HB2 := Lib.hid hb
    have cs := psync HW.out (by omega)
    clear hpw hb c0 cN cW HP HB hNw1
    obtain ⟨W0, hW0⟩ : ∃ W0, W0 = wc := ⟨_, rfl⟩
    subst hW0
    go_wp2_with fail
    refine Calls.mono cs ?_
    rintro e w3 ⟨rfl, ⟨S', a', b', hp⟩, hb⟩
    have HP3 := Lib.hid (hp.resolve_right (fun h => h.1 trivial))
    have HB3 := Lib.hid (HB2.out.trans hb)
    have cr := pread HP3.out
    obtain ⟨P, hP⟩ : ∃ P, padS E0 = P := ⟨_, rfl⟩
    rw [hP] at cr
    have HPP := Lib.hid hP
    clear hp hb cs hP
    go_wp2_with fail
    refine Calls.mono cr ?_
    rintro e w4 ⟨rfl, hb⟩
    have HT := Lib.hid (show TwR w4 W N p 0 sv P from ⟨⟨S', a', b', by rw [← HPP.out]; exact (HP3.out.below hb).loose (by omega) (by omega)⟩, HB3.out.trans (hb.mono HP3.out.dsk.le)⟩)
    clear hb cr HB2 HB3 HW HP3 HPP
    go_wp2_with fail
    go_loopw [13] (fun iv wr => ∃ i : Nat, (i : Int) ≤ 7 ∧ iv = .int .i64 i ∧ TwR wr W N p i sv P) (fun iv _ => 8 - (intOf iv).toNat)
    case atStart => exact ⟨0, by omega, rfl, HT.out⟩
    case round =>
      obtain ⟨i, hi7, rfl, ⟨S, a, b, hpd⟩, hb⟩ := hrel
      have HPd := Lib.hid hpd
      have HBr := Lib.hid hb
      obtain ⟨e0, e1, e2, e3⟩ := D0.out wr hb
      have e6 := e3 (i % 6) (by omega)
      clear hpd hb HT e3
      by_cases hlt : (i : Int) < K
      · have hpar : i % 2 = 0 ∨ i % 2 = 1 := by omega
        obtain ⟨X, E, x, k, hEs, hk1, hXm, hidx, hcell, hX1, hX2, hX3, hX4⟩ : ∃ (X E : ByteArray) (x : Int) (k : Nat), E.size ≤ 48 ∧ k ≤ 1 ∧ (X.size : Int) ≤ 9223372036854775807 ∧ bits .and .i64 (i : Int) 1 = (k : Int) ∧ wr.cell? ⟨q, 1 + k, none⟩ = some (.string X) ∧ min (X.size : Int) 48 = x ∧ 0 ≤ x ∧ x ≤ (X.size : Int) ∧ X.extract 0 x.toNat = E := by
          rcases hpar with h | h
          · exact ⟨s1, E1, t1, 0, h1e, by omega, by omega, by rw [mask1]; omega, e1, h1a, h1b, h1c, h1d⟩
          · exact ⟨s2, E2, t2, 1, h2e, by omega, by omega, by rw [mask1]; omega, e2, h2a, h2b, h2c, h2d⟩
        have hpt := HPd.out.tight
        have hsm := HPd.out.pair.most
        have cN := fun (w' : World) (hb : Below wr.heap.size wr w') => pnext (hpt.below hb)
        have cW := fun (w' : World) (hb : Below wr.heap.size wr w') => pwrite (hpt.below hb) E hEs
        have hgt := nextP_gt a b 1
        have hle := hpt.pair.at_le
        obtain ⟨T, hT⟩ : ∃ T, top4 a b = T := ⟨_, rfl⟩
        obtain ⟨n, hn⟩ : ∃ n, nextP a b 1 = n := ⟨_, rfl⟩
        rw [hn, hT] at hgt
        rw [hT] at hle hsm
        simp only [hn, hT] at cN cW
        have CN := Lib.hid cN
        have CW := Lib.hid cW
        have g1 : ¬ (n : Int) ≤ 1 := by omega
        have g2 : ((n : Int) % 2 == 1) = false := by have := hgt.2.2 (by omega); simp; omega
        have hTn : T ≤ n := by omega
        have hnT : n ≤ T + 2 := by omega
        obtain ⟨F, hF⟩ : ∃ F, u (i % 6) % 2 = F := ⟨_, rfl⟩
        have hF1 : F ≤ 1 := by omega
        have hf : fateU (2 + F) 0 ≠ 1 := by unfold fateU; simp; omega
        have hu6 : bits .and .u64 ((u (i % 6) : Nat) : Int) 1 = (F : Int) := by
          have := mask_u64 (u (i % 6)) 1 1 (by decide) (by decide) (hu _)
          rw [show u (i % 6) % 2 ^ 1 = F by omega] at this
          exact this
        have HPt := Lib.hid hpt
        have hi6 : (i : Int) % 6 < 6 := by omega
        have hi60 : 0 ≤ (i : Int) % 6 := by omega
        clear hpt hgt hle hn cN cW hpar e0 e1 e2 hT HPd HPt
        go_upto_region 8 with fail
        go_quiet (fail)
        have hb1 : Below wr.heap.size wr (wr.drewN nq) := below_drewN' (Below.refl _ _) nq
        have c := CN.out _ hb1
        have HB1 := Lib.hid hb1
        generalize wr.drewN nq = W1 at *
        clear hb1 CN hcell hX1 hX2 hX3 hX4 hXm e6 hidx hF
        go_wp2_with fail
        refine Calls.mono c ?_
        rintro e w2 ⟨rfl, hb⟩
        have hb2 := below_trans HB1.out hb HB1.out.size
        have HB2 := Lib.hid hb2
        have c2 := CW.out _ hb2
        clear hb hb2 c HB1 CW
        go_wp2_with fail
        refine Calls.mono c2 ?_
        rintro e w3 ⟨rfl, lv, hpw, hb⟩
        have HW := Lib.hid hpw
        have hb3 : Below N W w3 := (HBr.out.trans (HB2.out.mono (by have := HBr.out.size; have := HN.out; omega))).trans hb
        have e6 := (D0.out w3 hb3).2.2.2 (i % 6) (by omega)
        have HB3 := Lib.hid hb3
        have cs := pcrash2 HW.out (by omega) hTn (2 + F) (by omega) hf
        rw [show ((2 + F : Nat) : Int) = 2 + (F : Int) by omega] at cs
        clear hpw hb hb3 c2 HB2 hf
        go_wp2_with fail
        refine Calls.mono cs ?_
        rintro e w4 ⟨rfl, ⟨S', a', b', hp⟩, hb⟩
        have HP4 := Lib.hid hp
        have HB4 := Lib.hid (HB3.out.trans hb)
        have cr := pread hp
        clear hp hb cs HB3 HW e6
        go_wp2_with fail
        refine Calls.mono cr ?_
        rintro e w5 ⟨rfl, hb⟩
        have HP5 := Lib.hid (HP4.out.below hb)
        have HB5 := Lib.hid (HB4.out.trans (hb.mono HP4.out.dsk.le))
        clear hb cr HP4 HB4
        go_wp2_with fail
        go_roundw
        case rel => exact ⟨i + 1, by omega, by go_num, ⟨S', a', b', HP5.out.loose (by omega) (by omega)⟩, HB5.out⟩
        case measure => simp [intOf]; omega
      · have cx := fun w' (h : Below wr.heap.size wr w') => snext_bad (.pointer (some ⟨p, 0, none⟩)) (-1) w' (by omega)
        have cy := fun w' (h : Below wr.heap.size wr w') => snext_bad (.pointer (some ⟨p, 0, none⟩)) 4097 w' (by omega)
        have cn := fun w' => next_nil w'
        have hNr : N ≤ wr.heap.size := by have := HBr.out.size; have := HN.out; omega
        have hqN : q ≤ N := by omega
        clear e0 e1 e2 e6 HPd
        go_wp2_with fail
        refine Calls.mono (ca _) ?_
        rintro e w2 ⟨rfl, hb⟩
        have HB2 := Lib.hid hb
        clear hb
        go_wp2_with fail
        refine Calls.mono (cn _) ?_
        rintro e w3 ⟨rfl, hb⟩
        have HB3 := Lib.hid (below_trans HB2.out hb HB2.out.size)
        clear hb
        go_wp2_with fail
        refine Calls.mono (cx _ HB3.out) ?_
        rintro e w4 ⟨rfl, rfl⟩
        go_wp2_with fail
        refine Calls.mono (cy _ HB3.out) ?_
        rintro e w4 ⟨rfl, rfl⟩
        go_wp2_with fail
        go_ret
        exact ⟨ret_bool (by simp), by rw [hq]; exact HBW.out.trans ((HBr.out.trans (HB3.out.mono hNr)).mono hqN)⟩
end Go.Proofs.Ytcoliadgnbhkaaa
