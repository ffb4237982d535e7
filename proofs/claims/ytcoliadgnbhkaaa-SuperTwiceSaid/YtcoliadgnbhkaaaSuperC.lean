/-
  super: last, Read, Next, Write, of whatever two readings.
-/
import Derived.Test.YtcoliadgnbhkaaaSuperB
import Derived.Test.YtcoliadgnbhkaaaDiskB
namespace Go.Proofs.Ytcoliadgnbhkaaa
open Go.RowKit
set_option linter.unusedVariables false
set_option linter.unusedSimpArgs false

/-- the last whole word so far: its number, the word, the place -/
def stepL (r : ByteArray) (i : Nat) (x : Nat × ByteArray × Nat) : Nat × ByteArray × Nat := if wholeB r = true ∧ x.1 < num8 r then (num8 r, wordS r, i) else x
def lastS (r0 r1 : ByteArray) : Nat × ByteArray × Nat := stepL r1 1 (stepL r0 0 (0, ⟨#[]⟩, 0))
def rAt (r0 r1 : ByteArray) (j : Nat) : ByteArray := if j = 0 then r0 else r1
def lastJ (r0 r1 : ByteArray) (j : Nat) : Nat × ByteArray × Nat := if j = 0 then (0, ⟨#[]⟩, 0) else if j = 1 then stepL r0 0 (0, ⟨#[]⟩, 0) else lastS r0 r1
theorem lastJ_step (r0 r1 : ByteArray) (j : Nat) (h : j < 2) : lastJ r0 r1 (j + 1) = stepL (rAt r0 r1 j) j (lastJ r0 r1 j) := by
  have : j = 0 ∨ j = 1 := by omega
  rcases this with rfl | rfl <;> rfl
/-- what a reading of the pair answers -/
def Reads2 (dv : Value) (w : World) (at' : Int) (r0 r1 : ByteArray) (e0 e1 : Int) : Prop :=
  ∀ (j : Nat) (w' : World), j < 2 → Below w.heap.size w w' → Calls Try.prog 21 #[dv, .int .i64 (wrap64 (at' + j))] w' fun e w'' => e = .returned (.tuple #[.string (rAt r0 r1 j), .int .i64 (if j = 0 then e0 else e1)]) ∧ Below w'.heap.size w' w''
theorem Reads2.below {dv : Value} {w w2 : World} {at' : Int} {r0 r1 : ByteArray} {e0 e1 : Int} (h : Reads2 dv w at' r0 r1 e0 e1) (hb : Below w.heap.size w w2) : Reads2 dv w2 at' r0 r1 e0 e1 :=
  fun j w' hj hw => h j w' hj (below_trans hb hw hb.size)
def LRel (w wr : World) (r0 r1 : ByteArray) (j : Nat) (n s p : Value) : Prop := n = .int .u64 (lastJ r0 r1 j).1 ∧ s = .string (lastJ r0 r1 j).2.1 ∧ p = .int .i64 (lastJ r0 r1 j).2.2 ∧ Below w.heap.size w wr
set_option maxHeartbeats 1600000 in
set_option maxRecDepth 100000 in
theorem slast (dv : Value) (at' : Int) (r0 r1 : ByteArray) (e0 e1 : Int) (w : World) (hr : Reads2 dv w at' r0 r1 e0 e1) : Calls Try.prog 52 #[dv, .int .i64 at'] w fun e w' => e = .returned (.tuple #[.int .u64 (lastS r0 r1).1, .string (lastS r0 r1).2.1, .int .i64 (lastS r0 r1).2.2]) ∧ Below w.heap.size w w' := by
  have HRR := Lib.hid hr
  clear hr
  go_enter Try.func52, Try.ntmps52
  go_wp2_with fail
  go_loopw [7, 8, 9, 16] (fun n s p i wr => ∃ j : Nat, j ≤ 2 ∧ i = .int .i64 j ∧ LRel w wr r0 r1 j n s p) (fun _ _ _ i _ => 2 - (intOf i).toNat)
  case atStart => exact ⟨0, by omega, rfl, rfl, rfl, rfl, Below.refl _ _⟩
  case round =>
    obtain ⟨j, hj, rfl, rfl, rfl, rfl, hb⟩ := hrel
    have HB := Lib.hid hb
    by_cases hlt : j < 2
    · have c := HRR.out j wr hlt hb
      have hs := Lib.hid (lastJ_step r0 r1 j hlt)
      obtain ⟨R, hR⟩ : ∃ R, rAt r0 r1 j = R := ⟨_, rfl⟩
      rw [hR] at c hs
      obtain ⟨⟨m, u, q⟩, hx⟩ : ∃ x, lastJ r0 r1 j = x := ⟨_, rfl⟩
      rw [hx] at hs
      rw [hx]
      obtain ⟨E, hE⟩ : ∃ E, (if j = 0 then e0 else e1) = E := ⟨_, rfl⟩
      rw [hE] at c
      clear hb hR hx hE
      go_wp2_with fail
      refine Calls.mono c ?_
      rintro e w2 ⟨rfl, hb2⟩
      have HB2 := Lib.hid (below_trans HB.out hb2 HB.out.size)
      clear hb2 c
      by_cases hw : wholeB R = true
      · have c2 := fun w => sget_ok R w hw
        by_cases hm : m < num8 R
        · have HS := Lib.hid (show lastJ r0 r1 (j + 1) = (num8 R, wordS R, j) by rw [hs.out]; unfold stepL; rw [if_pos ⟨hw, hm⟩])
          obtain ⟨X, hX⟩ : ∃ X, num8 R = X := ⟨_, rfl⟩
          rw [hX] at c2 hm HS
          obtain ⟨T, hT⟩ : ∃ T, wordS R = T := ⟨_, rfl⟩
          rw [hT] at c2 HS
          clear hX hT hs hw
          go_wp2_with fail
          refine Calls.mono (c2 _) ?_
          rintro e w3 ⟨rfl, hb3⟩
          have HB3 := Lib.hid (below_trans HB2.out hb3 HB2.out.size)
          clear hb3 c2
          go_wp2_with fail
          go_roundw
          case rel => exact ⟨j + 1, by omega, by go_num, by unfold LRel; rw [HS.out]; exact ⟨rfl, rfl, rfl, HB3.out⟩⟩
          case measure => simp [intOf]; omega
        · have HS := Lib.hid (show lastJ r0 r1 (j + 1) = (m, u, q) by rw [hs.out]; unfold stepL; rw [if_neg (fun h => hm h.2)])
          obtain ⟨X, hX⟩ : ∃ X, num8 R = X := ⟨_, rfl⟩
          rw [hX] at c2 hm
          obtain ⟨T, hT⟩ : ∃ T, wordS R = T := ⟨_, rfl⟩
          rw [hT] at c2
          clear hX hT hs hw
          go_wp2_with fail
          refine Calls.mono (c2 _) ?_
          rintro e w3 ⟨rfl, hb3⟩
          have HB3 := Lib.hid (below_trans HB2.out hb3 HB2.out.size)
          clear hb3 c2
          go_wp2_with fail
          go_roundw
          case rel => exact ⟨j + 1, by omega, by go_num, by unfold LRel; rw [HS.out]; exact ⟨rfl, rfl, rfl, HB3.out⟩⟩
          case measure => simp [intOf]; omega
      · have c2 := fun w => sget_no R w (by simpa using hw)
        have HS := Lib.hid (show lastJ r0 r1 (j + 1) = (m, u, q) by rw [hs.out]; unfold stepL; rw [if_neg (fun h => hw h.1)])
        clear hs hw
        go_wp2_with fail
        refine Calls.mono (c2 _) ?_
        rintro e w3 ⟨rfl, hb3⟩
        have HB3 := Lib.hid (below_trans HB2.out hb3 HB2.out.size)
        clear hb3 c2
        go_wp2_with fail
        go_roundw
        case rel => exact ⟨j + 1, by omega, by go_num, by unfold LRel; rw [HS.out]; exact ⟨rfl, rfl, rfl, HB3.out⟩⟩
        case measure => simp [intOf]; omega
    · obtain rfl : j = 2 := by omega
      have he : lastJ r0 r1 2 = lastS r0 r1 := rfl
      rw [he]
      obtain ⟨⟨m, u, q⟩, hx⟩ : ∃ x, lastS r0 r1 = x := ⟨_, rfl⟩
      rw [hx]
      have HX := Lib.hid hx
      clear hb he hx
      go_wp2_with fail
      go_returns
      exact ⟨by rw [HX.out]; rfl, HB.out⟩
theorem sread (dv : Value) (at' : Int) (r0 r1 : ByteArray) (e0 e1 : Int) (w : World) (hr : Reads2 dv w at' r0 r1 e0 e1) : Calls Try.prog 30 #[dv, .int .i64 at'] w fun e w' => e = .returned (.tuple #[.int .u64 (lastS r0 r1).1, .string (lastS r0 r1).2.1, .bool (decide (0 < (lastS r0 r1).1))]) ∧ Below w.heap.size w w' := by
  have c := slast dv at' r0 r1 e0 e1 w hr
  obtain ⟨⟨m, u, q⟩, hx⟩ : ∃ x, lastS r0 r1 = x := ⟨_, rfl⟩
  rw [hx] at c
  rw [hx]
  clear hx hr
  go_enter Try.func30, Try.ntmps30
  go_wp2_with fail
  refine Calls.mono c ?_
  rintro e w2 ⟨rfl, hb⟩
  have HB := Lib.hid hb
  clear hb
  go_wp2_with fail
  go_returns
  exact ⟨by simp, HB.out⟩
/-- the greatest number that any half says -/
def hiS (r : ByteArray) (ok : Bool) (m : Nat) : Nat := if ok = true then max (max m (num8 r)) (num8 (r.extract 32 64)) else m
def hiJ (r0 r1 : ByteArray) (k0 k1 : Bool) (j : Nat) : Nat := if j = 0 then 0 else if j = 1 then hiS r0 k0 0 else hiS r1 k1 (hiS r0 k0 0)
theorem hiJ_step (r0 r1 : ByteArray) (k0 k1 : Bool) (j : Nat) (h : j < 2) : hiJ r0 r1 k0 k1 (j + 1) = hiS (rAt r0 r1 j) (if j = 0 then k0 else k1) (hiJ r0 r1 k0 k1 j) := by
  have : j = 0 ∨ j = 1 := by omega
  rcases this with rfl | rfl <;> rfl
theorem hiS_lt (r : ByteArray) (ok : Bool) (m : Nat) (h : m < 18446744073709551616) : hiS r ok m < 18446744073709551616 := by
  have h1 := num8_lt r
  have h2 := num8_lt (r.extract 32 64)
  unfold hiS
  split <;> omega
theorem hiJ_lt (r0 r1 : ByteArray) (k0 k1 : Bool) (j : Nat) : hiJ r0 r1 k0 k1 j < 18446744073709551616 := by
  unfold hiJ
  repeat' split
  · omega
  · exact hiS_lt _ _ _ (by omega)
  · exact hiS_lt _ _ _ (hiS_lt _ _ _ (by omega))
/-- the next number -/
def nextM (m : Nat) (x : Nat × ByteArray × Nat) : Nat := if 0 < x.1 ∧ (m + 1) % 18446744073709551616 ≠ 0 ∧ (m + 1) % 18446744073709551616 % 2 = x.2.2 then ((m + 1) % 18446744073709551616 + 1) % 18446744073709551616 else (m + 1) % 18446744073709551616
def nextS (r0 r1 : ByteArray) (k0 k1 : Bool) : Nat := nextM (hiJ r0 r1 k0 k1 2) (lastS r0 r1)
theorem stepL_place (r : ByteArray) (i : Nat) (x : Nat × ByteArray × Nat) (hi : i < 2) (hx : x.2.2 < 2) : (stepL r i x).2.2 < 2 := by
  unfold stepL
  split
  · exact hi
  · exact hx
theorem lastS_place (r0 r1 : ByteArray) : (lastS r0 r1).2.2 < 2 := stepL_place _ _ _ (by omega) (stepL_place _ _ _ (by omega) (by decide))
theorem snext_bad (dv : Value) (at' : Int) (w : World) (h : at' < 0 ∨ 4096 < at') : Calls Try.prog 28 #[dv, .int .i64 at'] w fun e w' => e = .returned (.int .u64 0) ∧ w = w' := by
  have c := fun w => smay at' w
  have hg : (decide (0 ≤ at') && decide (at' ≤ 4096)) = false := by
    rcases h with h | h <;> simp <;> omega
  rw [hg] at c
  clear h hg
  go_enter Try.func28, Try.ntmps28
  go_wp2_with fail
  refine Calls.mono (c _) ?_
  rintro e w2 ⟨rfl, rfl⟩
  go_wp2_with fail
  go_ret
  exact ⟨rfl, rfl⟩
set_option maxHeartbeats 3200000 in
set_option maxRecDepth 100000 in
theorem snext (dv : Value) (at' : Nat) (r0 r1 : ByteArray) (k0 k1 : Bool) (w : World) (ha : at' ≤ 4096) (hr : Reads2 dv w at' r0 r1 (if k0 = true then 0 else 1) (if k1 = true then 0 else 1)) (h0 : k0 = true → r0.size = 64) (h1 : k1 = true → r1.size = 64) :
    Calls Try.prog 28 #[dv, .int .i64 at'] w fun e w' => e = .returned (.int .u64 (nextS r0 r1 k0 k1)) ∧ Below w.heap.size w w' := by
  have cm := fun w => smay at' w
  have hg : (decide (0 ≤ (at' : Int)) && decide ((at' : Int) ≤ 4096)) = true := by simp; omega
  rw [hg] at cm
  have HRR := Lib.hid hr
  have H0 := Lib.hid h0
  have H1 := Lib.hid h1
  clear hr hg h0 h1
  go_enter Try.func28, Try.ntmps28
  go_wp2_with fail
  refine Calls.mono (cm _) ?_
  rintro e w2 ⟨rfl, rfl⟩
  clear cm
  go_wp2_with fail
  go_loopw [5, 18] (fun n i wr => ∃ j : Nat, j ≤ 2 ∧ i = .int .i64 j ∧ n = .int .u64 (hiJ r0 r1 k0 k1 j) ∧ Below w.heap.size w wr) (fun _ i _ => 2 - (intOf i).toNat)
  case atStart => exact ⟨0, by omega, rfl, rfl, Below.refl _ _⟩
  case round =>
    obtain ⟨j, hj, rfl, rfl, hb⟩ := hrel
    have HB := Lib.hid hb
    by_cases hlt : j < 2
    · have c := HRR.out j wr hlt hb
      have hs := Lib.hid (hiJ_step r0 r1 k0 k1 j hlt)
      have hwr : wrap64 ((at' : Int) + j) = (at' : Int) + j := by unfold wrap64; omega
      rw [hwr] at c
      obtain ⟨K, hK⟩ : ∃ K, (if j = 0 then k0 else k1) = K := ⟨_, rfl⟩
      rw [hK] at hs
      have he : (if j = 0 then (if k0 = true then (0 : Int) else 1) else (if k1 = true then (0 : Int) else 1)) = (if K = true then 0 else 1) := by
        rw [← hK]; split <;> rfl
      rw [he] at c
      have hsz : K = true → (rAt r0 r1 j).size = 64 := by
        rw [← hK]
        unfold rAt
        split
        · exact H0.out
        · exact H1.out
      obtain ⟨R, hR⟩ : ∃ R, rAt r0 r1 j = R := ⟨_, rfl⟩
      rw [hR] at c hs hsz
      have hmlt := hiJ_lt r0 r1 k0 k1 j
      obtain ⟨M, hM⟩ : ∃ x, hiJ r0 r1 k0 k1 j = x := ⟨_, rfl⟩
      rw [hM] at hs hmlt
      rw [hM]
      clear hb hR hM he hK hwr
      cases K
      · simp only [Bool.false_eq_true, if_false] at c
        have HS := Lib.hid (show hiJ r0 r1 k0 k1 (j + 1) = M by rw [hs.out]; rfl)
        clear hs hsz
        go_wp2_with fail
        refine Calls.mono c ?_
        rintro e w3 ⟨rfl, hb2⟩
        have HB2 := Lib.hid (below_trans HB.out hb2 HB.out.size)
        clear hb2 c
        go_wp2_with fail
        go_roundw
        case rel => exact ⟨j + 1, by omega, by go_num, by rw [HS.out], HB2.out⟩
        case measure => simp [intOf]; omega
      · simp only [if_true] at c
        have hsz := hsz rfl
        have HS := Lib.hid (show hiJ r0 r1 k0 k1 (j + 1) = max (max M (num8 R)) (num8 (R.extract 32 64)) by rw [hs.out]; rfl)
        have c2 := fun w => shalves R w hsz
        have b1 := num8_lt R
        have b2 := num8_lt (R.extract 32 64)
        obtain ⟨X, hX⟩ : ∃ X, num8 R = X := ⟨_, rfl⟩
        obtain ⟨Y, hY⟩ : ∃ Y, num8 (R.extract 32 64) = Y := ⟨_, rfl⟩
        rw [hX, hY] at c2 HS
        rw [hX] at b1
        rw [hY] at b2
        clear hs hsz hX hY
        go_wp2_with fail
        refine Calls.mono c ?_
        rintro e w3 ⟨rfl, hb2⟩
        have HB2 := Lib.hid (below_trans HB.out hb2 HB.out.size)
        clear hb2 c
        go_wp2_with fail
        refine Calls.mono (c2 _) ?_
        rintro e w4 ⟨rfl, hb2⟩
        have HB3 := Lib.hid (below_trans HB2.out hb2 HB2.out.size)
        clear hb2 c2
        go_wp2_with fail
        go_roundw
        case rel => exact ⟨j + 1, by omega, by go_num, by rw [HS.out]; exact congrArg (Value.int .u64) (by split <;> split <;> omega), HB3.out⟩
        case measure => simp [intOf]; omega
    · obtain rfl : j = 2 := by omega
      have c := slast dv at' r0 r1 _ _ wr (Reads2.below HRR.out hb)
      have hq := lastS_place r0 r1
      have hmlt := hiJ_lt r0 r1 k0 k1 2
      have hR : nextS r0 r1 k0 k1 = nextM (hiJ r0 r1 k0 k1 2) (lastS r0 r1) := rfl
      obtain ⟨M, hM⟩ : ∃ x, hiJ r0 r1 k0 k1 2 = x := ⟨_, rfl⟩
      obtain ⟨⟨l, u, q⟩, hx⟩ : ∃ x, lastS r0 r1 = x := ⟨_, rfl⟩
      rw [hx] at c hq hR
      rw [hM] at hmlt hR
      rw [hM]
      simp only at hq
      have HR := Lib.hid hR
      clear hb hM hx hR
      by_cases hb : M < 18446744073709551615
      · have h1 : ((M : Int) + 1 == 0) = false := by simp; omega
        have h1n : ((M : Int) + 1 != 0) = true := by simp [bne, h1]
        by_cases hl : 0 < l
        · by_cases he : (M + 1) % 2 = q
          · subst he
            by_cases hz : M < 18446744073709551614
            · have HV := Lib.hid (show nextM M (l, u, (M + 1) % 2) = M + 2 by unfold nextM; simp only; rw [Nat.mod_eq_of_lt (show M + 1 < 18446744073709551616 by omega), if_pos ⟨hl, by omega, rfl⟩]; omega)
              go_wp2_with fail
              refine Calls.mono c ?_
              rintro e w3 ⟨rfl, hb2⟩
              have HB2 := Lib.hid (below_trans HB.out hb2 HB.out.size)
              clear hb2 c
              go_wp2_with fail
              go_ret
              exact ⟨ret_int (by rw [HR.out, HV.out]; (try rw [IntKind.wrap_u64]); omega), HB2.out⟩
            · have HV := Lib.hid (show nextM M (l, u, (M + 1) % 2) = 0 by unfold nextM; simp only; rw [Nat.mod_eq_of_lt (show M + 1 < 18446744073709551616 by omega), if_pos ⟨hl, by omega, rfl⟩]; omega)
              go_wp2_with fail
              refine Calls.mono c ?_
              rintro e w3 ⟨rfl, hb2⟩
              have HB2 := Lib.hid (below_trans HB.out hb2 HB.out.size)
              clear hb2 c
              go_wp2_with fail
              go_ret
              exact ⟨ret_int (by rw [HR.out, HV.out]; (try rw [IntKind.wrap_u64]); omega), HB2.out⟩
          · have HV := Lib.hid (show nextM M (l, u, q) = M + 1 by unfold nextM; simp only; rw [Nat.mod_eq_of_lt (show M + 1 < 18446744073709551616 by omega), if_neg (fun h => he h.2.2)])
            have he2 : (((M : Int) + 1) % 2 == (q : Int)) = false := by simp; omega
            clear he
            go_wp2_with fail
            refine Calls.mono c ?_
            rintro e w3 ⟨rfl, hb2⟩
            have HB2 := Lib.hid (below_trans HB.out hb2 HB.out.size)
            clear hb2 c
            go_wp2_with fail
            go_ret
            exact ⟨ret_int (by rw [HR.out, HV.out]; (try rw [IntKind.wrap_u64]); omega), HB2.out⟩
        · have HV := Lib.hid (show nextM M (l, u, q) = M + 1 by unfold nextM; simp only; rw [Nat.mod_eq_of_lt (show M + 1 < 18446744073709551616 by omega), if_neg (fun h => hl h.1)])
          go_wp2_with fail
          refine Calls.mono c ?_
          rintro e w3 ⟨rfl, hb2⟩
          have HB2 := Lib.hid (below_trans HB.out hb2 HB.out.size)
          clear hb2 c
          go_wp2_with fail
          go_ret
          exact ⟨ret_int (by rw [HR.out, HV.out]; (try rw [IntKind.wrap_u64]); omega), HB2.out⟩
      · have hw : IntKind.u64.wrap ((M : Int) + 1) = 0 := by rw [IntKind.wrap_u64]; omega
        have HV := Lib.hid (show nextM M (l, u, q) = 0 by unfold nextM; simp only; rw [show (M + 1) % 18446744073709551616 = 0 by omega, if_neg (fun h => h.2.1 rfl)])
        have hM1 : 0 ≤ (M : Int) := by omega
        clear hb hmlt
        go_wp2_with fail
        refine Calls.mono c ?_
        rintro e w3 ⟨rfl, hb2⟩
        have HB2 := Lib.hid (below_trans HB.out hb2 HB.out.size)
        clear hb2 c
        go_wp2_with fail
        all_goals
          go_ret
          exact ⟨ret_int (by rw [HR.out, HV.out]; (try rw [IntKind.wrap_u64]); omega), HB2.out⟩
end Go.Proofs.Ytcoliadgnbhkaaa
