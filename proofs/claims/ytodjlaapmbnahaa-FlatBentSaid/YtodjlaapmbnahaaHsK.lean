/-
  FlatFits: what was done at once fits.
-/
import Derived.Test.YtodjlaapmbnahaaHsH
import Derived.Test.YtodjlaapmbnahaaFltJ
namespace Go.Proofs.Ytodjlaapmbnahaa
open Go.RowKit
set_option linter.unusedVariables false
set_option linter.unusedSimpArgs false

theorem ext_len (x : ByteArray) (i j : Nat) : (x.extract i j).size ≤ x.size := by rw [ByteArray.size_extract]; omega
/-- what a history did with a block: numbers that fit -/
theorem uses_okH {E : List Ev} {ops : List OpR} (hs : Hs E ops) (hok : ∀ e ∈ E, EvOk e) (hE : E.length ≤ 2000) (b : Int) : ∀ u ∈ usesN E 4 b E.length, UsOk u := by
  intro u hu
  obtain ⟨x, hx, k, p, hp, hb, hu2⟩ := (uses_mem hs).1 hu
  have hxa := hs.at_ x hx
  have hal := (List.getElem?_eq_some_iff.1 hxa).1
  have hxo := hok _ (List.mem_of_getElem? hxa)
  have htl : ∀ t, x.told = some t → t < E.length := fun t ht => by
    obtain ⟨e, he, -⟩ := hs.ans x hx t ht
    exact (List.getElem?_eq_some_iff.1 he).1
  rcases (usept_op hs hx hb).1 hu2 with ⟨hw, rfl⟩ | ⟨hw, t, ht, rfl⟩
  · refine ⟨?_, ⟨by show (-1 : Int) ≤ (x.a : Int); omega, by show (x.a : Int) ≤ NV; unfold NV; omega⟩, ?_⟩
    · rw [show (⟨true, p.d, x.a, toldV x.told⟩ : Us).val = p.d from rfl, (parts_b hp).2.2.1]
      unfold partD
      split
      · have h1 := ext_len x.D (32 * k) (32 * k + 32)
        have h2 : x.D.size ≤ maxLen := hxo.data
        omega
      · split
        · rw [zeroL_size]; decide
        · decide
    · cases ht : x.told with
      | none => exact ⟨by show (-1 : Int) ≤ NV; decide, Int.le_refl _⟩
      | some t => have := htl t ht; exact ⟨by show (-1 : Int) ≤ (t : Int); omega, by show (t : Int) ≤ NV; unfold NV; omega⟩
  · have h1 := htl t ht
    obtain ⟨e, he, -, het, -⟩ := hs.ans x hx t ht
    refine ⟨?_, ⟨by show (-1 : Int) ≤ (x.a : Int); omega, by show (x.a : Int) ≤ NV; unfold NV; omega⟩, ⟨by show (-1 : Int) ≤ (t : Int); omega, by show (t : Int) ≤ NV; unfold NV; omega⟩⟩
    show (rdV x.out k).size ≤ maxLen
    have h2 := ext_len x.out (min (32 * k) x.out.size) (min (min (32 * k) x.out.size + 32) x.out.size)
    have h3 := (hok _ (List.mem_of_getElem? he)).txt
    rw [het] at h3
    unfold rdV
    omega
theorem meas_4H {j : Nat} (h : j < 4) : 4 - (intOf (.int .i64 ((j : Int) + 1))).toNat < 4 - (intOf (.int .i64 (j : Int))).toNat := by
  show 4 - ((j : Int) + 1).toNat < 4 - ((j : Int)).toNat
  omega
set_option maxHeartbeats 1600000 in
set_option maxRecDepth 100000 in
theorem flatfits_law (a : Option Addr) (len cap : Nat) (k : Int) (w : World) (hf : Fits w (.slice (.two (.int .i64) (.two (.two (.int .i64) (.two (.int .i64) (.two (.int .i64) (.two .str (.two .bool .unit))))) (.two .bool .unit)))) [.slice a len cap]) (hk : (Lit.int .i64 k).wf = true) :
    Calls Try.prog 3 #[.slice a len cap, .int .i64 k] w fun e w' => e = .returned (.bool true) ∧ Below w.heap.size w w' := by
  have hmk : bits .and .i64 k 3 = k % 4 := mask_mod k 2 3 (by decide) (by decide)
  obtain ⟨m, hm⟩ : ∃ m, k % 4 = m := ⟨_, rfl⟩
  rw [hm] at hmk
  have hm4 : 0 ≤ m ∧ m ≤ 3 := by omega
  have c := phistory a len cap (1 + m) w hf (by omega)
  unfold HistP at c
  clear hm hf hk
  go_enter Try.func3, Try.ntmps3
  go_wp2_with fail
  refine Calls.mono c ?_
  rintro e w1 ⟨hv, E, V, ops, rfl, hA, hMk, hEl, hok, helts, hb1⟩
  have HH := Lib.hid (And.intro hA (And.intro hEl (And.intro hok (And.intro helts hb1))))
  clear c hA hMk hEl hok helts hb1
  go_wp2_with fail
  go_loopw [6] (fun iv wx => ∃ b : Nat, b ≤ 4 ∧ iv = .int .i64 (b : Int) ∧ Hid (Below w1.heap.size w1 wx)) (fun iv _ => 4 - (intOf iv).toNat)
  case atStart => exact ⟨0, by decide, rfl, Lib.hid (Below.refl _ _)⟩
  case round =>
    obtain ⟨b, hb4, rfl, HB⟩ := hrel
    by_cases hbl : b < 4
    · have hbl' : (b : Int) < 4 := by omega
      obtain ⟨I, hI⟩ := HH.out.1.hb b hbl
      have hE6 := HH.out.2.1
      have hcert := hb_cert HH.out.1.hs hI (by unfold NV; omega)
      obtain ⟨L, hL, hL1, hfit⟩ := cert_fits hcert
      have huo := uses_okH HH.out.1.hs HH.out.2.2.1 (by omega) (b : Int)
      have c1 := pfspans E 4 b hv wr (HH.out.2.2.2.1.below HB.out) HH.out.2.2.1 (by omega) huo
      have c2 := fun wz (hz : Below w1.heap.size w1 wz) => pfits E 4 b hv wz (HH.out.2.2.2.1.below hz) HH.out.2.2.1 (by omega) huo
      rw [hL] at c1
      simp only [hL] at c2
      unfold FSpP at c1
      unfold FitsP FitsO at c2
      dsimp only at c1 c2
      have hL1' : ¬ ((L.length : Int) < 1) := by omega
      have HFi := Lib.hid hfit
      clear hcert huo hfit hL hL1 hI hE6
      go_wp2_with fail
      refine Calls.mono c1 ?_
      rintro e w2 ⟨⟨sa, sc, rfl⟩, hb2⟩
      have hz2 := HB.out.trans (hb2.mono HB.out.size)
      have c3 := c2 w2 hz2
      have HZ2 := Lib.hid hz2
      clear c1 c2 hb2 hz2
      go_wp2_with fail
      refine Calls.mono c3 ?_
      rintro e w3 ⟨bb, rfl, hbb, hb3⟩
      obtain rfl : bb = true := hbb.2 HFi.out
      have HZ3 := Lib.hid (HZ2.out.trans (hb3.mono HZ2.out.size))
      clear c3 hbb hb3
      go_wp2_with fail
      go_roundw
      case rel => exact ⟨b + 1, by omega, by go_num, HZ3⟩
      case measure => exact meas_4H hbl
    · obtain rfl : b = 4 := by omega
      go_wp2_with fail
      refine Calls.mono (awake35 _) ?_
      rintro e w2 ⟨rfl, hb2⟩
      have HF := Lib.hid (HH.out.2.2.2.2.trans ((HB.out.trans (hb2.mono HB.out.size)).mono HH.out.2.2.2.2.size))
      clear hb2
      go_wp2_with fail
      go_ret
      exact ⟨rfl, HF.out⟩
end Go.Proofs.Ytodjlaapmbnahaa
