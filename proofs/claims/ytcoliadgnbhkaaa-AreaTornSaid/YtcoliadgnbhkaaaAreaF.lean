/-
  AreaTorn.
-/
import Derived.Test.YtcoliadgnbhkaaaAreaE
namespace Go.Proofs.Ytcoliadgnbhkaaa
open Go.RowKit
set_option linter.unusedVariables false
set_option linter.unusedSimpArgs false

theorem cut200 (s : ByteArray) (hs : s.size ≤ maxLen) : ∃ (t : Int) (E : ByteArray), min (s.size : Int) 200 = t ∧ 0 ≤ t ∧ t ≤ (s.size : Int) ∧ s.extract 0 t.toNat = E ∧ E.size ≤ 200 := by
  refine ⟨_, _, rfl, by omega, by omega, rfl, ?_⟩
  rw [ByteArray.size_extract]
  omega
theorem within8 (a n : Nat) (h : a + n ≤ 512) : withinA ((0 : Nat) : Int) ((8 : Nat) : Int) a n = true := by
  have hm : mayA ((0 : Nat) : Int) ((8 : Nat) : Int) = true := by decide
  have hb : bytesA ((0 : Nat) : Int) ((8 : Nat) : Int) = 512 := by decide
  unfold withinA
  rw [hm, hb]
  simp
  omega
set_option maxHeartbeats 3200000 in
theorem areatorn_law (s more : ByteArray) (u : Int) (w : World) (hs : s.size ≤ maxLen) (hm : more.size ≤ maxLen) (hu : (Lit.int .u64 u).wf = true) :
    Calls Try.prog 10 #[.string s, .string more, .int .u64 u] w fun e w' => e = .returned (.bool true) ∧ Below w.heap.size w w' := by
  obtain ⟨u, rfl, hul⟩ : ∃ m : Nat, u = m ∧ m < 18446744073709551616 := by
    simp [Lit.wf, IntKind.min, IntKind.max, IntKind.signed, IntKind.bits] at hu
    exact ⟨u.toNat, by omega, by omega⟩
  obtain ⟨t0, T, h0a, h0b, h0c, h0d, hT⟩ := cut200 s hs
  obtain ⟨t1, U, h1a, h1b, h1c, h1d, hU⟩ := cut200 more hm
  have ca := fun w => awake06 w
  have hx := heap_alloc_self w (.cells #[.int .i64 0, .int .i64 8] 63)
  have hba : Below w.heap.size w (w.alloc (.cells #[.int .i64 0, .int .i64 8] 63)) := (Below.refl _ _).alloc (Nat.le_refl _) _
  unfold maxLen at hs hm
  clear hu
  go_enter Try.func10, Try.ntmps10
  go_upto_region 2 with fail
  generalize w.alloc (.cells #[.int .i64 0, .int .i64 8] 63) = w0 at *
  obtain ⟨q, hq⟩ : ∃ q, w.heap.size = q := ⟨_, rfl⟩
  rw [hq] at hx hba
  try rw [hq]
  have HX0 := Lib.hid hx
  have HBA := Lib.hid hba
  have HQ := Lib.hid hq
  have hqw := lt_heap hx
  have cn := dnew 8 w0 (by omega) (by omega)
  clear hx hba hq
  go_wp2_with fail
  refine Calls.mono cn ?_
  rintro e w1 ⟨p, sv, rfl, hd, hb⟩
  have HB := Lib.hid hb
  have HD := Lib.hid hd
  clear hd hb cn
  go_upto_region 3 with fail
  go_quiet (fail)
  have HB1 := Lib.hid (show Below w0.heap.size w0 (w1.drewN nq) from below_drewN' HB.out nq)
  have HD1 := Lib.hid (HD.out.drewN nq)
  generalize w1.drewN nq = w2 at *
  obtain ⟨N, hN⟩ : ∃ N, w0.heap.size = N := ⟨_, rfl⟩
  rw [hN] at HB1 HD1 hqw
  have HN := Lib.hid hN
  have cells : ∀ w', Below N w0 w' → w'.cell? ⟨q, 0, none⟩ = some (.int .i64 0) ∧ w'.cell? ⟨q, 1, none⟩ = some (.int .i64 8) := by
    intro w' hb
    have h := (hb.block q hqw).trans HX0.out
    exact ⟨by simp [World.cell?, h], by simp [World.cell?, h]⟩
  have CE := Lib.hid cells
  obtain ⟨c0, c1⟩ := cells w2 HB1.out
  have cw : Calls Try.prog 31 #[.pointer (some ⟨p, 0, none⟩), .agg #[.int .i64 0, .int .i64 8], .int .i64 0, .string T] w2 (AWrote w2 N p sv (.slice none 0 0) (freshS 8) [] 0 T.size T) := awrite 0 8 0 T w2 N p sv _ _ _ HD1.out (by simp; omega) (within8 0 T.size (by omega))
  clear cells hN HD HB h0a h0b h0c h0d h1a h1b h1c h1d hs hm
  go_wp2_with fail
  refine Calls.mono cw ?_
  rintro e w3 ⟨r, k, rfl, hrk, hwr⟩
  obtain ⟨rfl, rfl⟩ := hrk (by rw [freshS_length]; omega)
  obtain ⟨lv2, L2, hd3, hla, hk3⟩ := hwr.ex
  have hl2 : L2.length ≤ 1000 := by obtain ⟨M, hM, hMl, _⟩ := hla.more; rw [hM]; simp; omega
  have HLA := Lib.hid hla
  have HD3 := Lib.hid hd3
  have HB3 := Lib.hid (HB1.out.trans hk3.below)
  have cs := dsync w3 _ _ _ _ _ _ hd3 (by omega)
  clear hla hd3 hk3 hwr hrk c0 c1 cw
  go_wp2_with fail
  refine Calls.mono cs ?_
  rintro e w4 ⟨rfl, hd4, hk4⟩
  have HD4 := Lib.hid hd4
  have HB4 := Lib.hid (HB3.out.trans hk4.below)
  have hfl : ∀ j, j < T.size → flatD (syncS (freshS 8) L2) [] j = atB T j := by
    intro j hj
    have h1 : flatD (syncS (freshS 8) L2) [] j = flatD (freshS 8) L2 j := by
      unfold flatD
      rw [sync_cur _ _ _ (by rw [freshS_length]; omega)]
    rw [h1, HLA.out.flat, if_pos (by omega), Nat.sub_zero]
  have hSl : (syncS (freshS 8) L2).length = 8 := by unfold syncS; rw [endS_length, freshS_length]
  obtain ⟨S1, hS1⟩ : ∃ S, syncS (freshS 8) L2 = S := ⟨_, rfl⟩
  rw [hS1] at hfl hSl HD4
  have HFL := Lib.hid hfl
  have HSL := Lib.hid hSl
  obtain ⟨c0, c1⟩ := CE.out w4 HB4.out
  have cw : Calls Try.prog 31 #[.pointer (some ⟨p, 0, none⟩), .agg #[.int .i64 0, .int .i64 8], .int .i64 (T.size : Nat), .string U] w4 (AWrote w4 N p sv (.slice none 0 0) S1 [] T.size U.size U) := by
    have := awrite 0 8 T.size U w4 N p sv _ _ _ HD4.out (by simp; omega) (within8 T.size U.size (by omega))
    rw [Nat.mul_zero, Nat.zero_add] at this
    exact this
  clear hd4 hk4 hfl hS1 hSl cs hl2
  go_wp2_with fail
  refine Calls.mono cw ?_
  rintro e w5 ⟨r, k, rfl, hrk, hwr⟩
  obtain ⟨rfl, rfl⟩ := hrk (by rw [HSL.out]; omega)
  obtain ⟨lv3, L3, hd5, hla, hk5⟩ := hwr.ex
  have hl3 : L3.length ≤ 1000 := by obtain ⟨M, hM, hMl, _⟩ := hla.more; rw [hM]; simp; omega
  have HLB := Lib.hid hla
  have HD5 := Lib.hid hd5
  have HB5 := Lib.hid (HB4.out.trans hk5.below)
  have cc := dcrash u hul w5 _ _ _ _ _ _ hd5 (by omega)
  clear hla hd5 hk5 hwr hrk c0 c1 cw
  go_wp2_with fail
  refine Calls.mono cc ?_
  rintro e w6 ⟨rfl, hd6, hk6⟩
  have HD6 := Lib.hid hd6
  have HB6 := Lib.hid (HB5.out.trans hk6.below)
  have hfl : ∀ j, j < T.size → flatD (crashS u S1 L3) [] j = atB T j := by
    intro j hj
    obtain ⟨M, hM, hMl, hMx⟩ := HLB.out.more
    rw [List.nil_append] at hM
    subst hM
    unfold crashS
    rw [end_same _ T.size L3 0 S1 HD5.out.sizes HD5.out.ats (fun x hx q hq hqt => hMx x hx q hq (by omega)) j hj]
    exact HFL.out j hj
  have hSl : (crashS u S1 L3).length = 8 := by unfold crashS; rw [endS_length, HSL.out]
  obtain ⟨S2, hS2⟩ : ∃ S, crashS u S1 L3 = S := ⟨_, rfl⟩
  rw [hS2] at hfl hSl HD6
  have HFL2 := Lib.hid hfl
  have HSL2 := Lib.hid hSl
  obtain ⟨c0, c1⟩ := CE.out w6 HB6.out
  have cr : Calls Try.prog 32 #[.pointer (some ⟨p, 0, none⟩), .agg #[.int .i64 0, .int .i64 8], .int .i64 0, .int .i64 (T.size : Nat)] w6 (ARead w6 S2 [] 0 T.size) := aread 0 8 0 T.size w6 N p sv _ _ _ HD6.out (by simp) (within8 0 T.size (by omega))
  clear hd6 hk6 hfl hS2 hSl cc hl3 HFL
  go_wp2_with fail
  refine Calls.mono cr ?_
  rintro e w7 ⟨r, l, rfl, hg, hn, hr, hb⟩
  obtain rfl := hr (by rw [HSL2.out]; omega)
  have hg := hg rfl
  have hst : (⟨l.toArray⟩ : ByteArray) = T := got_string hg.1 (fun j hj => by rw [hg.2 j hj, Nat.zero_add]; exact HFL2.out j hj)
  have HB7 := Lib.hid (below_trans HB6.out hb (by have := HB6.out.size; have := HN.out; omega))
  clear hg hn hr hb cr c0 c1
  rw [hst]
  clear hst
  go_wp2_with fail
  refine Calls.mono (ca _) ?_
  rintro e w8 ⟨rfl, hb⟩
  have HB8 := Lib.hid (below_trans HB7.out hb (by have := HB7.out.size; have := HN.out; omega))
  clear hb ca
  go_wp2_with fail
  go_ret
  exact ⟨ret_bool (by simp), by rw [HQ.out]; exact HBA.out.trans (HB8.out.mono (by omega))⟩
end Go.Proofs.Ytcoliadgnbhkaaa
