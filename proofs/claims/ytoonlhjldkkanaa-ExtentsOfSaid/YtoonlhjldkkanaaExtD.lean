/-
  ExtentsOf's walk, of its own.
-/
import Derived.Test.YtoonlhjldkkanaaExtC
namespace Go.Proofs.Ytoonlhjldkkanaa
open Go.RowKit
set_option linter.unusedVariables false
set_option linter.unusedSimpArgs false

theorem drewN_more (w : World) (n m : Nat) : (w.drewN n).drewN m = w.drewN (n + m) := by unfold World.drewN; simp [Nat.add_assoc]
set_option maxHeartbeats 6400000 in
set_option maxRecDepth 400000 in
theorem extentsof_law (a0 : Option Addr) (len0 cap0 : Nat) (w : World) (hf0 : Fits w (.slice heldSh) [.slice a0 len0 cap0]) :
    Calls Try.prog 13 #[.slice a0 len0 cap0] w fun e w' => e = .returned (.bool true) ∧ Below w.heap.size w w' := by
  obtain ⟨rs, rfl, hr, hro⟩ := fits_held hf0
  have c1 := near09 rs hro w _ hr
  have hxo := nearL_ok hro
  have HS := Lib.hid (srt_putAll Srt.nil hxo)
  have hm := allM_putAll (l := []) (xs := nearL rs) (by intro x hx; cases hx)
  obtain ⟨X, hX⟩ : ∃ X, nearL rs = X := ⟨_, rfl⟩
  rw [hX] at c1 hxo HS hm
  have HXO := Lib.hid hxo
  obtain ⟨L, hL⟩ : ∃ L, putAll [] X = L := ⟨_, rfl⟩
  rw [hL] at HS hm
  have HL := Lib.hid hL
  have HOF := Lib.hid (of_self HS.out hm)
  have hll := HS.out.len
  have hel := ext_len L
  have HOK := Lib.hid (ok_ext HS.out.all)
  have HSUM := Lib.hid (sum_ext HS.out.all)
  have hg := extguard
  clear hr hro hxo hX hL hm hf0
  go_enter Try.func13, Try.ntmps13
  go_wp2_with fail
  refine Calls.mono c1 ?_
  rintro e w1 ⟨v1, rfl, ho1, hb1⟩
  have c2 := rof X HXO.out w1 v1 (SR.owns ho1)
  rw [HL.out] at c2
  have HB1 := Lib.hid hb1
  clear ho1 hb1 c1
  go_wp2_with fail
  refine Calls.mono c2 ?_
  rintro e w2 ⟨v2, rfl, hm2, -, hb2⟩
  obtain ⟨a2, cap2, rfl, hl2, hm2'⟩ := hm2.form
  unfold maxLen at hm2'
  have R2 := Lib.hid hm2
  have HB2 := Lib.hid (HB1.out.trans (hb2.mono HB1.out.size))
  have c3 := ext_of L HS.out.ok w2 _ R2.out
  rw [HOF.out] at c3
  clear hm2 hb2 c2
  go_wp2_with fail
  refine Calls.mono c3 ?_
  rintro e w3 ⟨v3, rfl, hs3, hb3⟩
  obtain ⟨E, hE⟩ : ∃ E, extL L = E := ⟨_, rfl⟩
  rw [hE] at hs3 hel HOK HSUM
  have HE := Lib.hid hE
  obtain ⟨a3, cap3, rfl, hl3, hm3⟩ := hs3.form
  unfold maxLen at hm3
  have R3 := Lib.hid (R2.out.below hb3)
  have G3 := Lib.hid hs3
  have HB3 := Lib.hid (HB2.out.trans (hb3.mono HB2.out.size))
  clear hs3 hb3 c3 hE
  go_wp2_with fail
  go_loopw [5, 6] (fun k i wr => ∃ n t : Nat, n ≤ L.length ∧ i = .int .i64 n ∧ k = .int .i64 (extL (L.take n)).length ∧ wr = w3.drewN t ∧ Hid (∀ x, L[n]? = some x → NM (extL (L.take n)) x)) (fun _ i _ => L.length - (intOf i).toNat)
  case atStart => exact ⟨0, 0, Nat.zero_le _, rfl, rfl, rfl, Lib.hid (fun x _ A e h => by simp [extL] at h)⟩
  case round =>
    obtain ⟨n, t, hn, rfl, rfl, rfl, HNM⟩ := hrel
    by_cases hlt : n < L.length
    · obtain ⟨x, hx⟩ : ∃ x, L[n]? = some x := ⟨_, List.getElem?_eq_getElem hlt⟩
      have hgx := HS.out.all x (List.mem_of_getElem? hx)
      have hxb0 := hgx.1
      have hxb1 := hgx.2.1
      obtain ⟨b, off, rfl, -, c0, c1, -⟩ := sr_held R3.out n x hx
      have HX := Lib.hid hx
      have hnI : (n : Int) < L.length := by omega
      have hn0 : (0 : Int) ≤ n := by omega
      obtain ⟨kn, hkn⟩ : ∃ kn, (extL (L.take n)).length = kn := ⟨_, rfl⟩
      try rw [hkn]
      have HKN := Lib.hid hkn
      have HR0 := Lib.hid (show Run L n x n x.v x.v from ⟨hgx.2.2.1, hgx.2.2.1, .inl ⟨rfl, rfl, rfl⟩⟩)
      clear hx hgx hkn
      go_upto_region 5 with fail
      go_quiet (fail)
      go_wp2_with fail
      go_loopw [7, 8, 9] (fun jv lo hi w5 => ∃ (j s : Nat) (l h : Int), n ≤ j ∧ j ≤ L.length ∧ jv = .int .i64 j ∧ lo = .int .u64 l ∧ hi = .int .u64 h ∧ w5 = w3.drewN s ∧ Hid (Run L n x j l h)) (fun jv _ _ _ => L.length - (intOf jv).toNat)
      case atStart => exact ⟨n, _, x.v, x.v, Nat.le_refl _, by omega, rfl, rfl, rfl, drewN_more _ _ _, HR0⟩
      case round =>
        obtain ⟨j, s, lo, hi, hj0, hj, rfl, rfl, rfl, rfl, HRN⟩ := hrel
        have hjn0 : (0 : Int) ≤ j := by omega
        have hw1 : IntKind.i64.wrap (x.b + j) = x.b + j := by rw [IntKind.wrap_i64]; omega
        have hw2 : IntKind.i64.wrap (x.b + j - n) = x.b + j - n := by rw [IntKind.wrap_i64]; omega
        by_cases hc : ∃ y, L[j]? = some y ∧ y.b = x.b + j - n
        · obtain ⟨y, hy, hyb⟩ := hc
          have hltj := (List.getElem?_eq_some_iff.1 hy).1
          have hgy := HS.out.all y (List.mem_of_getElem? hy)
          obtain ⟨b', off', he', -, d0, d1, -⟩ := sr_held R3.out j y hy
          injection he' with he'
          injection he' with q1 q2
          subst q1 q2
          have hjI : (j : Int) < L.length := by omega
          have hdj : decide ((j : Int) < L.length) = true := decide_eq_true hjI
          have hq1 : (y.b == x.b + ↑j - ↑n) = true := by simpa using hyb
          have HN2 := Lib.hid (run_next HRN.out HX.out (HNM.out x HX.out) hy hyb hgy.2.2.1)
          clear hy hgy
          go_upto_region 6 with fail
          go_cut [52] (fun s' wx => s' = .bool true ∧ ∃ u, wx = w3.drewN u)
          case first =>
            go_quiet (fail)
            go_wp2_with fail
            go_meet
            exact ⟨rfl, _, rfl⟩
          case rest =>
            obtain ⟨rfl, u, rfl⟩ := hcut
            go_wp2_with fail
            go_quiet (fail)
            go_wp2_with fail
            go_roundw
            case rel => exact ⟨j + 1, _, _, _, by omega, by omega, by go_num, rfl, rfl, rfl, HN2⟩
            case measure => simp [intOf]; omega
        · have HEND := Lib.hid (run_end HRN.out HX.out hj (fun z hz hb => hc ⟨z, hz, hb⟩))
          have hnj : n < j := HEND.out.1
          have hEk := HEND.out.2.2.2
          rw [HKN.out, HE.out] at hEk
          have hkE := (List.getElem?_eq_some_iff.1 hEk).1
          obtain ⟨b6, off6, rfl, -, g0, g1, g2, g3⟩ := sr_ext G3.out kn _ hEk
          have hkI : (kn : Int) < E.length := by omega
          have hk0 : (0 : Int) ≤ kn := by omega
          have hkd : decide ((E.length : Int) ≤ kn) = false := decide_eq_false (by omega)
          have hkg : ¬ ((E.length : Int) ≤ kn) := by omega
          have hw3 : IntKind.i64.wrap ((j : Int) - n) = (j : Int) - n := by rw [IntKind.wrap_i64]; omega
          have hne := fun w => ext_neq x.b ((j : Int) - n) lo hi (wf_of (by omega)) (wf_of (by omega)) HRN.out.1 HRN.out.2.1 w
          have hkj : (extL (L.take j)).length = kn + 1 := by rw [HEND.out.2.1, List.length_append, HKN.out]; rfl
          have HKJ := Lib.hid hkj
          have HNJ := Lib.hid HEND.out.2.2.1
          have HC := Lib.hid hc
          clear hEk hkj hc
          go_upto_region 6 with fail
          go_cut [52] (fun s' wx => s' = .bool false ∧ ∃ u, wx = w3.drewN u)
          case first =>
            by_cases hltj : j < L.length
            · obtain ⟨y, hy⟩ : ∃ y, L[j]? = some y := ⟨_, List.getElem?_eq_getElem hltj⟩
              obtain ⟨b', off', he', -, d0, d1, -⟩ := sr_held R3.out j y hy
              injection he' with he'
              injection he' with q1 q2
              subst q1 q2
              have hjI : (j : Int) < L.length := by omega
              have hdj : decide ((j : Int) < L.length) = true := decide_eq_true hjI
              have hyb : ¬ y.b = x.b + j - n := fun h => HC.out ⟨y, hy, h⟩
              have hq1 : (y.b == x.b + ↑j - ↑n) = false := by simpa using hyb
              clear hy
              go_quiet (fail)
              go_wp2_with fail
              go_meet
              exact ⟨rfl, _, rfl⟩
            · have hdj : decide ((j : Int) < L.length) = false := decide_eq_false (by omega)
              go_quiet (fail)
              go_wp2_with fail
              go_meet
              exact ⟨rfl, _, rfl⟩
          case rest =>
            obtain ⟨rfl, u, rfl⟩ := hcut
            go_upto_region 9 with fail
            go_quiet (fail)
            go_wp2_with fail
            go_roundw
            case rel => exact ⟨j, _, hj, rfl, by rw [HKJ.out]; go_num, rfl, HNJ⟩
            case measure => simp [intOf]; omega
    · obtain rfl : n = L.length := by omega
      have hkE : (extL (L.take L.length)).length = E.length := by rw [List.take_length, HE.out]
      have hbt : Below w3.heap.size w3 (w3.drewN t) := below_drewN' (Below.refl _ _) t
      have G4 := Lib.hid (G3.out.below hbt)
      have HB4 := Lib.hid (HB3.out.trans (hbt.mono HB3.out.size))
      rw [hkE]
      clear hkE hbt HNM
      generalize w3.drewN t = w4 at *
      go_wp2_with fail
      refine Calls.mono (awake48 _) ?_
      rintro e w5 ⟨rfl, hb5⟩
      have cb := ext_blocks E HOK.out (by omega) w5 _ (G4.out.below hb5)
      rw [HSUM.out] at cb
      have HB5 := Lib.hid (HB4.out.trans (hb5.mono HB4.out.size))
      clear hb5
      go_wp2_with fail
      refine Calls.mono cb ?_
      rintro e w6 ⟨rfl, hb6⟩
      have HB6 := Lib.hid (HB5.out.trans (hb6.mono HB5.out.size))
      clear hb6 cb
      go_wp2_with fail
      go_ret
      exact ⟨rfl, HB6.out⟩
end Go.Proofs.Ytoonlhjldkkanaa
