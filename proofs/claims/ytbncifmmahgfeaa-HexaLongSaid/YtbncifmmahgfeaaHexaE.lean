/-
  The reference's digit and Get; HexaGets.
-/
import Derived.Test.YtbncifmmahgfeaaHexaD
namespace Go.Proofs.Ytbncifmmahgfeaa
open Go.RowKit
set_option linter.unusedVariables false
set_option linter.unusedSimpArgs false

def digI (c : UInt8) : Int := if (digV c).isSome then (digN c : Int) else -1
theorem rdigit (c : UInt8) (w : World) : Calls Try.prog 18 #[.int .u8 c.toNat] w fun e w' => e = .returned (.int .i64 (digI c)) ∧ w = w' := by
  have h256 := c.toNat_lt
  have hcase : (48 ≤ c.toNat ∧ c.toNat ≤ 57) ∨ (97 ≤ c.toNat ∧ c.toNat ≤ 102) ∨ (65 ≤ c.toNat ∧ c.toNat ≤ 70) ∨ ¬ (48 ≤ c.toNat ∧ c.toNat ≤ 57) ∧ ¬ (97 ≤ c.toNat ∧ c.toNat ≤ 102) ∧ ¬ (65 ≤ c.toNat ∧ c.toNat ≤ 70) := by omega
  have hv : digV c = if 48 ≤ c.toNat ∧ c.toNat ≤ 57 then some (c.toNat - 48) else if 97 ≤ c.toNat ∧ c.toNat ≤ 102 then some (c.toNat - 87) else if 65 ≤ c.toNat ∧ c.toNat ≤ 70 then some (c.toNat - 55) else none := rfl
  rcases hcase with h | h | h | ⟨h1, h2, h3⟩
  · have e : digV c = some (c.toNat - 48) := by rw [hv, if_pos h]
    have e2 : digI c = (c.toNat : Int) - 48 := by unfold digI digN; rw [e]; simp; omega
    rw [e2]
    generalize c.toNat = n at *
    clear e e2 hv
    go_enter Try.func18, Try.ntmps18
    go_wp2_with fail
    go_ret
    exact ⟨rfl, rfl⟩
  · have e : digV c = some (c.toNat - 87) := by rw [hv, if_neg (by omega), if_pos h]
    have e2 : digI c = (c.toNat : Int) - 97 + 10 := by unfold digI digN; rw [e]; simp; omega
    rw [e2]
    generalize c.toNat = n at *
    clear e e2 hv
    go_enter Try.func18, Try.ntmps18
    go_wp2_with fail
    go_ret
    exact ⟨rfl, rfl⟩
  · have e : digV c = some (c.toNat - 55) := by rw [hv, if_neg (by omega), if_neg (by omega), if_pos h]
    have e2 : digI c = (c.toNat : Int) - 65 + 10 := by unfold digI digN; rw [e]; simp; omega
    rw [e2]
    generalize c.toNat = n at *
    clear e e2 hv
    go_enter Try.func18, Try.ntmps18
    go_wp2_with fail
    go_ret
    exact ⟨rfl, rfl⟩
  · have e : digV c = none := by rw [hv, if_neg h1, if_neg h2, if_neg h3]
    have e2 : digI c = -1 := by unfold digI; rw [e]; rfl
    rw [e2]
    generalize c.toNat = n at *
    clear e e2 hv
    have hr : n < 48 ∨ (57 < n ∧ n < 65) ∨ (70 < n ∧ n < 97) ∨ 102 < n := by omega
    rcases hr with h | ⟨h, h'⟩ | ⟨h, h'⟩ | h
    all_goals
      go_enter Try.func18, Try.ntmps18
      go_wp2_with fail
      go_ret
      exact ⟨rfl, rfl⟩
theorem digI_good {c : UInt8} (h : (digV c).isSome = true) : digI c = (digN c : Int) := by unfold digI; rw [if_pos h]
theorem digI_bad {c : UInt8} (h : (digV c).isSome = false) : digI c = -1 := by unfold digI; rw [h]; rfl
def getM (s : ByteArray) (L : Nat) : Value :=
  if L < s.size then .tuple #[.string ⟨#[]⟩, .int .i64 L] else if s.size % 2 = 1 then .tuple #[.string ⟨#[]⟩, .int .i64 ((s.size : Int) - 1)] else .tuple #[.string ⟨(valL s (s.size / 2)).toArray⟩, .int .i64 (-1)]
theorem conv1 {P : Program} {src dst e : TypeId} (hs : P.underlying src = some (.slice e)) (he : P.underlying e = some (.int .u8)) (hd : P.underlying dst = some .string) (w : World) (b0 : UInt8) (x0 : Int) (h0 : x0 = b0.toNat) :
    (convert src dst (.slice (some ⟨w.heap.size, 0, none⟩) 1 1)).run P (w.alloc (.cells #[.int .u8 x0] e)).drew = .ok (.string ⟨#[b0]⟩) (w.alloc (.cells #[.int .u8 x0] e)).drew := by
  subst h0
  refine run_convert_bytes_back _ src dst e ⟨w.heap.size, 0, none⟩ 1 [b0] hs he hd fun j hj => ?_
  have e1 : (⟨w.heap.size, 0, none⟩ : Addr).add j = ⟨w.heap.size, j, none⟩ := by unfold Addr.add; split <;> simp_all
  rw [e1]
  show (w.alloc _).cell? _ = _
  rw [World.cell?_alloc_at _ _ _ _ rfl]
  have : j = 0 := by simpa using hj
  subst this
  rfl
theorem val_step {s : ByteArray} {k i d1 d2 : Nat} {p1 p2 : Int} {c1 c2 b0 : UInt8} (hi : 2 * k = i) (h1 : i < s.size) (h2 : i + 1 < s.size) (hc1 : s[i]'h1 = c1) (hc2 : s[i + 1]'h2 = c2) (hd1 : digN c1 = d1) (hd2 : digN c2 = d2) (hb : p2 = b0.toNat) (hp1 : (d1 : Int) * 16 = p1) (hp2 : p1 + (d2 : Int) = p2) :
    (⟨(valL s k).toArray⟩ : ByteArray) ++ ⟨#[b0]⟩ = ⟨(valL s (k + 1)).toArray⟩ := by
  have hp : pairB s k = b0 := by
    unfold pairB
    rw [hi, getD_at s i h1, getD_at s (i + 1) h2, hc1, hc2, hd1, hd2]
    have h256 := b0.toNat_lt
    apply UInt8.toNat_inj.1
    simp
    omega
  rw [valL_succ, hp]
  exact str_ext (by simp)
set_option maxHeartbeats 3200000 in
set_option maxRecDepth 100000 in
theorem rget (s : ByteArray) (L : Nat) (w : World) (hs : s.size ≤ 1000) (hL : L ≤ s.size) (hgood : ∀ k (h : k < s.size), k < L → (digV (s[k]'h)).isSome = true) (hbad : ∀ h : L < s.size, (digV (s[L]'h)).isSome = false) :
    Calls Try.prog 11 #[.string s] w fun e w' => e = .returned (getM s L) ∧ Below w.heap.size w w' := by
  have HG := Lib.hid hgood
  have HBD := Lib.hid hbad
  clear hgood hbad
  go_enter Try.func11, Try.ntmps11
  go_wp2_with fail
  go_loopw [4, 5] (fun o i wr => ∃ k : Nat, 2 * k ≤ L ∧ i = .int .i64 ((2 * k : Nat) : Int) ∧ o = .string ⟨(valL s k).toArray⟩ ∧ Below w.heap.size w wr) (fun _ i _ => s.size - (intOf i).toNat)
  case atStart => exact ⟨0, Nat.zero_le _, rfl, rfl, Below.refl _ _⟩
  case round =>
    obtain ⟨k, hk, rfl, rfl, hbr⟩ := hrel
    have HBr := Lib.hid hbr
    clear hbr
    obtain ⟨i, hi⟩ : ∃ i : Nat, 2 * k = i := ⟨_, rfl⟩
    rw [hi] at hk
    try rw [hi]
    have HI := Lib.hid hi
    clear hi
    by_cases hlt : i < s.size
    · have hi1 : (i : Int) < (s.size : Int) := by omega
      obtain ⟨c1, hc1⟩ : ∃ c : UInt8, s[i]'hlt = c := ⟨_, rfl⟩
      by_cases hlast : i + 1 = s.size
      · have hR : getM s L = .tuple #[.string ⟨#[]⟩, .int .i64 i] := by
          have := HI.out
          unfold getM
          by_cases h : L < s.size
          · rw [if_pos h, show L = i by omega]
          · rw [if_neg h, if_pos (by omega), show (s.size : Int) - 1 = (i : Int) by omega]
        have hl1 : (i : Int) + 1 = (s.size : Int) := by omega
        have hl2 : (((i : Int) + 1) == (s.size : Int)) = true := by simp [hl1]
        have HRR := Lib.hid hR
        clear hR hl1
        go_wp2_with fail
        go_returns
        exact ⟨by rw [HRR.out]; rfl, HBr.out⟩
      · have hl2 : (((i : Int) + 1) == (s.size : Int)) = false := by rw [beq_eq_false_iff_ne]; omega
        have hi2 : i + 1 < s.size := by omega
        have hi3 : (i : Int) + 1 < (s.size : Int) := by omega
        obtain ⟨c2, hc2⟩ : ∃ c : UInt8, s[i + 1]'hi2 = c := ⟨_, rfl⟩
        have cd1 := fun w => rdigit c1 w
        have cd2 := fun w => rdigit c2 w
        by_cases hL1 : i < L
        · have hg1 := HG.out i hlt hL1
          rw [hc1] at hg1
          rw [digI_good hg1] at cd1
          obtain ⟨d1, hd1⟩ : ∃ d, digN c1 = d := ⟨_, rfl⟩
          have h15 := digN_le c1
          rw [hd1] at cd1 h15
          by_cases hL2 : i + 1 < L
          · have hg2 := HG.out (i + 1) hi2 hL2
            rw [hc2] at hg2
            rw [digI_good hg2] at cd2
            obtain ⟨d2, hd2⟩ : ∃ d, digN c2 = d := ⟨_, rfl⟩
            have h25 := digN_le c2
            rw [hd2] at cd2 h25
            obtain ⟨b0, hb0⟩ : ∃ b : UInt8, ((d1 : Int) * 16 + (d2 : Int)) = b.toNat := ⟨UInt8.ofNat (d1 * 16 + d2), by simp; omega⟩
            obtain ⟨p1, hp1⟩ : ∃ p : Int, (d1 : Int) * 16 = p := ⟨_, rfl⟩
            obtain ⟨p2, hp2⟩ : ∃ p : Int, p1 + (d2 : Int) = p := ⟨_, rfl⟩
            rw [hp1, hp2] at hb0
            have f2 : IntKind.i64.wrap ((d1 : Int) * 16) = p1 := by rw [hp1]; exact IntWalk.i64_in _ (by omega)
            have f3 : IntKind.i64.wrap (p1 + (d2 : Int)) = p2 := by rw [hp2]; exact IntWalk.i64_in _ (by omega)
            have f4 : IntKind.u8.wrap p2 = p2 := by
              have : (IntKind.u8.wrap p2) = p2 % 256 := rfl
              rw [this]; omega
            have hp0 : 0 ≤ p2 := by omega
            have hp255 : p2 ≤ 255 := by omega
            have f5 : IntKind.i64.wrap ((i : Int) + 1) = (i : Int) + 1 := IntWalk.i64_in _ (by omega)
            have f6 : (0 : Int) ≤ (i : Int) + 1 := by omega
            have f7 : ((i : Int) + 1).toNat = i + 1 := by omega
            have hcv := conv1 (P := Try.prog) (src := 33) (dst := 9) Try.underlying33 Try.underlying5 Try.underlying9 wr b0 _ hb0
            have HC := Lib.hid (And.intro hc1 (And.intro hc2 (And.intro hd1 (And.intro hd2 (And.intro hb0 (And.intro hp1 hp2))))))
            obtain ⟨O, hO⟩ : ∃ O : ByteArray, (⟨(valL s k).toArray⟩ : ByteArray) = O := ⟨_, rfl⟩
            have hOs : O.size ≤ 500 := by
              rw [← hO]
              show (valL s k).toArray.size ≤ 500
              rw [List.size_toArray, valL_len]; have := HI.out; omega
            try rw [hO]
            have HOO := Lib.hid hO
            clear hg1 hg2 hd1 hd2 hb0 hO hp1 hp2
            go_wp2_with fail
            refine Calls.mono (cd1 _) ?_
            rintro e w2 ⟨rfl, rfl⟩
            go_wp2_with fail
            refine Calls.mono (cd2 _) ?_
            rintro e w2 ⟨rfl, rfl⟩
            go_upto_region 9 with fail
            go_region_with (first | (go_at_call_of 18 (Value.int .u8 c1.toNat); refine Calls.mono (cd1 _) ?_; rintro e wz ⟨rfl, rfl⟩) | (go_at_call_of 18 (Value.int .u8 c2.toNat); refine Calls.mono (cd2 _) ?_; rintro e wz ⟨rfl, rfl⟩))
            all_goals
              go_wp2_with fail
              go_roundw
              case rel => exact ⟨k + 1, by have := HI.out; omega, by have := HI.out; simp; omega, by rw [← HOO.out]; exact congrArg Value.string (val_step HI.out hlt hi2 HC.out.1 HC.out.2.1 HC.out.2.2.1 HC.out.2.2.2.1 HC.out.2.2.2.2.1 HC.out.2.2.2.2.2.1 HC.out.2.2.2.2.2.2), below_drew' (HBr.out.alloc HBr.out.size _)⟩
              case measure => simp [intOf]; omega
          · have hg2 := HBD.out (by omega)
            have hLi : L = i + 1 := by omega
            subst hLi
            rw [hc2] at hg2
            rw [digI_bad hg2] at cd2
            have hR : getM s (i + 1) = .tuple #[.string ⟨#[]⟩, .int .i64 ((i : Int) + 1)] := by
              unfold getM
              rw [if_pos hi2]; rfl
            have HRR := Lib.hid hR
            clear hg1 hg2 hR
            go_wp2_with fail
            refine Calls.mono (cd1 _) ?_
            rintro e w2 ⟨rfl, rfl⟩
            go_wp2_with fail
            refine Calls.mono (cd2 _) ?_
            rintro e w2 ⟨rfl, rfl⟩
            go_wp2_with fail
            go_returns
            exact ⟨by rw [HRR.out]; rfl, HBr.out⟩
        · obtain rfl : i = L := by omega
          have hg1 := HBD.out hlt
          rw [hc1] at hg1
          rw [digI_bad hg1] at cd1
          have hR : getM s i = .tuple #[.string ⟨#[]⟩, .int .i64 (i : Int)] := by
            unfold getM
            rw [if_pos hlt]
          have HRR := Lib.hid hR
          clear hg1 hR
          go_wp2_with fail
          refine Calls.mono (cd1 _) ?_
          rintro e w2 ⟨rfl, rfl⟩
          go_wp2_with fail
          go_returns
          exact ⟨by rw [HRR.out]; rfl, HBr.out⟩
    · have hLs : L = s.size := by omega
      have his : i = s.size := by omega
      have hR : getM s L = .tuple #[.string ⟨(valL s k).toArray⟩, .int .i64 (-1)] := by
        have := HI.out
        unfold getM
        rw [if_neg (by omega), if_neg (by omega), show s.size / 2 = k by omega]
      have HRR := Lib.hid hR
      clear hR
      go_wp2_with fail
      go_returns
      exact ⟨by rw [HRR.out]; rfl, HBr.out⟩
end Go.Proofs.Ytbncifmmahgfeaa
