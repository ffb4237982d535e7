/-
  HexaBlocks' walk.
-/
import Derived.Test.YtbncifmmahgfeaaHexaH
namespace Go.Proofs.Ytbncifmmahgfeaa
open Go.RowKit
set_option linter.unusedVariables false
set_option linter.unusedSimpArgs false

set_option maxHeartbeats 6400000 in
set_option maxRecDepth 100000 in
theorem hexablocks_law (s : ByteArray) (a : Int) (w : World) (hs : s.size ≤ maxLen) (ha : (Lit.int .i64 a).wf = true) :
    Calls Try.prog 5 #[.string s, .int .i64 a] w fun e w' => e = .returned (.bool true) ∧ Below w.heap.size w w' := by
  have h31 := mask31 a
  obtain ⟨k, hk⟩ : ∃ k, a % 32 = k := ⟨_, rfl⟩
  rw [hk] at h31
  have hk0 : 0 ≤ k := by omega
  have hk1 : k ≤ 31 := by omega
  have hk2 : k ≤ (32 : Int) := by omega
  obtain ⟨t, ht⟩ : ∃ t, min (s.size : Int) 40 = t := ⟨_, rfl⟩
  have ht1 : t ≤ 40 := by omega
  have ht2 : t ≤ (s.size : Int) := by omega
  have ht0 : 0 ≤ t := by omega
  obtain ⟨E, hE⟩ : ∃ E : ByteArray, s.extract 0 t.toNat = E := ⟨_, rfl⟩
  have hEs : E.size ≤ maxLen := by rw [← hE, ByteArray.size_extract]; unfold maxLen at *; omega
  have cb := fun w => block_any E w hEs
  have hF : (s.extract 0 1).size ≤ maxLen := by rw [ByteArray.size_extract]; unfold maxLen at *; omega
  have cf := fun w => block_any (s.extract 0 1) w hF
  unfold maxLen at hs
  clear hF hEs
  go_enter Try.func5, Try.ntmps5
  go_wp2_with fail
  refine Calls.mono (cb _) ?_
  rintro e w2 ⟨T, rfl, hT, hT0, hb2⟩
  have HB2 := Lib.hid hb2
  clear hb2 cb hT0
  have hTi : (T.size : Int) = 32 := by omega
  go_upto_if 20 with fail
  obtain ⟨bo, hbo⟩ : ∃ bo, decide (0 < s.size) = bo := ⟨_, rfl⟩
  rw [hbo]
  have HBO := Lib.hid hbo
  clear hbo
  go_cut [5] from 21 to 29 (fun v wx => ∃ b : ByteArray, v = .string b ∧ b.size = 32 ∧ Below w.heap.size w wx)
  case first =>
    cases bo
    · go_wp2_with fail
      go_meet
      exact ⟨T, rfl, hT, HB2.out⟩
    · have h0 : 0 < s.size := by simpa using HBO.out
      have h0i : (0 : Int) < (s.size : Int) := by omega
      have h1i : (1 : Int) ≤ (s.size : Int) := by omega
      go_upto_region 4 with fail
      go_region_with (first | (go_at_call 12; refine Calls.mono (cf _) ?_; rintro e wz ⟨Z, rfl, hZ, hZ0, hbz⟩; have hZi : (Z.size : Int) = 32 := (by omega)))
      all_goals
        have HBZ := Lib.hid (show Below w2.heap.size w2 wz from below_of_drew hbz)
        clear hbz hZ0
        go_wp2_with fail
        go_meet
        exact ⟨_, rfl, by { simp only [ByteArray.size_append, ByteArray.size_extract]; omega }, below_trans HB2.out HBZ.out HB2.out.size⟩
  case rest =>
    obtain ⟨b, rfl, hbs, hb⟩ := hcut
    obtain ⟨w3, hw3⟩ : ∃ x, x = wc := ⟨_, rfl⟩
    subst hw3
    have HB3 := Lib.hid hb
    obtain ⟨f, c, hf, hrun, hbrk⟩ := last_run b (by omega)
    have c1 := fun w => hblock b f c w (by omega) hf (fun h => hrun _ h (by omega)) hrun hbrk
    have c2 := fun w => long_block b f c w hbs (by omega) hrun
    have c3 := fun w => rblock b f c w (by omega) hf hrun hbrk
    obtain ⟨R, hR⟩ : ∃ R, blockR b f = R := ⟨_, rfl⟩
    rw [hR] at c1 c2 c3
    clear hb hrun hbrk hf hR cf hT hTi h31 hk0 hk1 hk2 hk ht0 ht1 ht2 ht hE HB2
    go_wp2_with fail
    refine Calls.mono (c1 _) ?_
    rintro e w4 ⟨rfl, hb4⟩
    have HB4 := Lib.hid (below_trans HB3.out hb4 HB3.out.size)
    clear hb4
    go_wp2_with fail
    refine Calls.mono (c2 _) ?_
    rintro e w5 ⟨rfl, hb5⟩
    have HB5 := Lib.hid (below_trans HB4.out hb5 HB4.out.size)
    clear hb5
    go_wp2_with fail
    refine Calls.mono (awake44 _) ?_
    rintro e w6 ⟨rfl, hb6⟩
    have HB6 := Lib.hid (below_trans HB5.out hb6 HB5.out.size)
    clear hb6
    go_wp2_with fail
    refine Calls.mono (c1 _) ?_
    rintro e w7 ⟨rfl, hb7⟩
    have HB7 := Lib.hid (below_trans HB6.out hb7 HB6.out.size)
    clear hb7
    go_wp2_with fail
    refine Calls.mono (c3 _) ?_
    rintro e w8 ⟨rfl, n, rfl⟩
    go_wp2_with fail
    go_ret
    exact ⟨ret_bool (by simp), below_drewN' HB7.out _⟩
end Go.Proofs.Ytbncifmmahgfeaa
