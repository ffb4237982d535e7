/-
  FramePuts' law.
-/
import Derived.Test.YtbmjkieikaapfaaDoorFrmB
import Derived.Test.YtbmjkieikaapfaaDoorMask
import Derived.Test.YtbmjkieikaapfaaDoorHeld
import Derived.Laws.OwnMore
namespace Go.Proofs.YtbmjkieikaapfaaDoor
open Go.RowKit
set_option linter.unusedVariables false
set_option linter.unusedSimpArgs false

theorem mades_b (n : Nat) : (madeCells (Value.int .u8 0).cells (n * 1)).toList = bCells (List.replicate n 0) := by
  rw [show (Value.int .u8 0).cells = #[Value.int .u8 0] from rfl, Nat.mul_one, toList_madeCells_one]
  simp [bCells]
set_option maxHeartbeats 1600000 in
set_option maxRecDepth 100000 in
theorem frameputs_law (s : ByteArray) (long : Int) (w : World) (hs : s.size ≤ maxLen) (hlg : (Lit.int .i64 long).wf = true) (hT : Tab w) :
    Calls Tryd.prog 3 #[.string s, .int .i64 long] w fun e w' => e = .returned (.bool true) ∧ Below w.heap.size w w' := by
  obtain ⟨sl, hsl⟩ : ∃ t, s.data.toList = t := ⟨_, rfl⟩
  have hst : s = ⟨sl.toArray⟩ := by rw [← hsl]
  have htl : sl.length ≤ maxLen := hsl ▸ hs
  subst hst
  unfold maxLen at htl
  have HT := Lib.hid hT
  have h7 := mask_mod long 3 7 (by decide) (by decide)
  have hq := fun x : Int => mask_mod x 7 127 (by decide) (by decide)
  clear hs hsl hT hlg
  obtain ⟨m, hm⟩ : ∃ m : Nat, min sl.length 200 = m := ⟨_, rfl⟩
  have hmI : (if (200 : Int) < sl.length then (200 : Int) else (sl.length : Int)) = m := by split <;> omega
  have hmI2 : min (sl.length : Int) 200 = m := by omega
  have hm0 : (0 : Int) ≤ m := by omega
  have hm1 : (m : Int) ≤ sl.length := by omega
  have hm2 : m ≤ 200 := by omega
  obtain ⟨A, hA⟩ : ∃ A, sl.take m = A := ⟨_, rfl⟩
  have hAl : A.length ≤ 200 := by rw [← hA, List.length_take]; omega
  have HM := Lib.hid hm
  clear hm
  go_enter Tryd.func3, Tryd.ntmps3
  obtain ⟨Sx, hSx⟩ : ∃ S, (⟨sl.toArray⟩ : ByteArray).extract 0 m = S := ⟨_, rfl⟩
  have hSA : Sx = ⟨A.toArray⟩ := by rw [← hSx, str_take, hA]
  have HSA := Lib.hid hSA
  have hSl : Sx.size ≤ 200 := by rw [hSA]; simpa [ByteArray.size] using hAl
  clear hSA
  go_upto_if 16 with fail
  try simp only [hSx]
  go_cut [5] (fun v wx => ∃ T : List UInt8, v = .string ⟨T.toArray⟩ ∧ T.length ≤ 20000 ∧ Below w.heap.size w wx)
  case first =>
    by_cases hc : long % 8 = 7
    · have hc1 : (long % 8 == 7) = true := by simpa using hc
      obtain ⟨Q, hQ⟩ : ∃ Q, bits .and .i64 (long / 8) 127 = Q := ⟨_, rfl⟩
      have hQr : 0 ≤ Q ∧ Q < 128 := by
        have := hq (long / 8)
        rw [hQ] at this
        omega
      obtain ⟨n, hn⟩ : ∃ n : Nat, (16300 : Int) + long / 8 % 128 = n := ⟨(16300 + long / 8 % 128).toNat, by omega⟩
      have hn2 : n ≤ 16427 := by omega
      obtain ⟨i0, hi, hz0, hz1, hz2⟩ := info_parts info_u8
      obtain ⟨w2, hmk, hown, hgr⟩ := run_make_full (P := Tryd.prog) (w := w) w.heap.size 22 5 i0 _ 1 Tryd.underlying22 hi hz0 hz1 .i64 .i64 n (by rw [hz2]; omega) (by unfold maxLen; omega) (Nat.le_refl _)
      rw [mades_b] at hown
      obtain ⟨Z, hZ⟩ : ∃ Z : ByteArray, (⟨(List.replicate n 0).toArray⟩ : ByteArray) = Z := ⟨_, rfl⟩
      have hcv := OwnB.string (P := Tryd.prog) (src := 22) (dst := 9) Tryd.underlying22 Tryd.underlying5 Tryd.underlying9 (OwnB.of_owns hown)
      rw [hZ] at hcv
      have hZs : Z.size = n := by rw [← hZ]; simp [ByteArray.size]
      have HZ := Lib.hid hZ
      have hb2 : Below w.heap.size w w2 := (Below.refl _ w).grown hgr (Nat.le_refl _) (fun k e => by cases e)
      have HB2 := Lib.hid hb2
      have hsum : Sx.size + Z.size ≤ 9223372036854775807 := by omega
      have hnb : ¬ 9223372036854775807 < Sx.size + Z.size := by omega
      rw [← hn] at hmk
      have HN := Lib.hid hn
      clear hown hgr hb2 hQ hQr hZ hn
      go_wp2_with fail
      go_meet
      exact ⟨A ++ List.replicate n 0, by rw [HSA.out, ← HZ.out, str_append], by simp; omega, HB2.out⟩
    · have hc1 : (long % 8 == 7) = false := by simpa using hc
      go_wp2_with fail
      go_meet
      exact ⟨A, by rw [HSA.out], by omega, Below.refl _ _⟩
  case rest =>
    obtain ⟨T, rfl, hTl, hbw⟩ := hcut
    obtain ⟨W1, hW1⟩ : ∃ W, W = wc := ⟨_, rfl⟩
    subst hW1
    have HB1 := Lib.hid hbw
    have cp := fput T W1 (by omega) (HT.out.below hbw)
    clear hbw
    go_wp2_with fail
    refine Calls.mono cp ?_
    rintro e w2 ⟨rfl, hb2⟩
    have HB2 := Lib.hid (HB1.out.trans (hb2.mono HB1.out.size))
    have cg := fget (frameB T) w2 (HT.out.below HB2.out)
    clear hb2 cp
    go_wp2_with fail
    refine Calls.mono cg ?_
    rintro e w3 ⟨rfl, hb3⟩
    have HB3 := Lib.hid (HB2.out.trans (hb3.mono HB2.out.size))
    clear hb3 cg
    by_cases hlong : 16384 < T.length
    · have h1 : (16384 : Int) < T.length := by omega
      have hf : frameB T = [] := by unfold frameB; rw [if_pos hlong]
      rw [hf]
      go_wp2_with fail
      refine Calls.mono (awake3 _ (HT.out.below HB3.out)) ?_
      rintro e w4 ⟨rfl, hb4⟩
      have HB4 := Lib.hid (HB3.out.trans (hb4.mono HB3.out.size))
      clear hb4
      go_wp2_with fail
      go_ret
      exact ⟨rfl, HB4.out⟩
    · have h1 : ¬ (16384 : Int) < T.length := by omega
      obtain ⟨hE, hB⟩ := get_back (t := T) (by omega)
      rw [hE, hB]
      have cr := fun w' => rput3 T w' (by omega)
      obtain ⟨F, hF⟩ : ∃ F, frameB T = F := ⟨_, rfl⟩
      rw [hF]
      simp only [hF] at cr
      clear hF hE hB
      go_wp2_with fail
      refine Calls.mono (awake3 _ (HT.out.below HB3.out)) ?_
      rintro e w4 ⟨rfl, hb4⟩
      have HB4 := Lib.hid (HB3.out.trans (hb4.mono HB3.out.size))
      clear hb4
      go_wp2_with fail
      refine Calls.mono (cr _) ?_
      rintro e w5 ⟨rfl, hb5⟩
      have HB5 := Lib.hid (HB4.out.trans (hb5.mono HB4.out.size))
      clear hb5 cr
      go_wp2_with fail
      go_ret
      exact ⟨rfl, HB5.out⟩
end Go.Proofs.YtbmjkieikaapfaaDoor
