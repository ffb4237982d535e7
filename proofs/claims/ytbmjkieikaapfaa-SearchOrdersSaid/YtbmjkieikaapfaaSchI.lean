/-
  SearchOrders' walk.
-/
import Derived.Test.YtbmjkieikaapfaaSchH
namespace Go.Proofs.Ytbmjkieikaapfaa
open Go.RowKit Go.WideMaps
set_option linter.unusedVariables false
set_option linter.unusedSimpArgs false

set_option maxHeartbeats 3200000 in
set_option maxRecDepth 100000 in
theorem searchorders_law (a : Option Addr) (len cap : Nat) (s : ByteArray) (once : Bool) (w : World) (hf : Fits w (.slice shU) [.slice a len cap]) (hs : s.size ≤ maxLen) :
    Calls Try.prog 4 #[.slice a len cap, .string s, .bool once] w fun e w' => e = .returned (.bool true) ∧ Below w.heap.size w w' := by
  obtain ⟨l, hl, hE, hR⟩ := uses_of hf
  have hlm : len ≤ maxLen := by
    obtain ⟨a', c', e, h1, h2, -⟩ := hE
    injection e with _ e2 e3
    omega
  have cn := near40 once l a len cap w hE hl hR hlm
  obtain ⟨t, ht⟩ : ∃ t, min (s.size : Int) 1 = t := ⟨_, rfl⟩
  have ht1 : t ≤ 1 := by omega
  have ht2 : t ≤ (s.size : Int) := by omega
  have ht0 : 0 ≤ t := by omega
  obtain ⟨V, hV⟩ : ∃ T : ByteArray, s.extract 0 t.toNat = T := ⟨_, rfl⟩
  have hVs : V.size ≤ maxLen := by
    have : V.size ≤ 1 := by rw [← hV, ByteArray.size_extract]; omega
    unfold maxLen
    omega
  have ht' : (if (1 : Int) < s.size then (1 : Int) else (s.size : Int)) = t := by split <;> omega
  have HVS := Lib.hid hVs
  unfold maxLen at hs
  clear hf hE hR hl hlm hVs
  go_enter Try.func4, Try.ntmps4
  go_wp2_with fail
  refine Calls.mono cn ?_
  rintro e w1 ⟨xa, k, xc, out, rfl, hsr, hk7, hnu, hb1⟩
  have HB1 := Lib.hid hb1
  have HO := Lib.hid hsr
  have HNU := Lib.hid hnu
  clear cn hsr hnu hb1
  go_upto_region 3 with fail
  try simp only [ht', hV]
  clear ht ht' hV ht0 ht1 ht2
  go_wp2_with fail
  refine Calls.mono (awake40 _) ?_
  rintro e w2 ⟨rfl, hb2⟩
  have HB2 := Lib.hid (HB1.out.trans (hb2.mono HB1.out.size))
  have HO2 := Lib.hid (HO.out.below hb2)
  have hus : ∀ x ∈ out, x.v.size ≤ maxLen := fun x hx => by have := (HNU.out x hx).2.2.2.2; unfold maxLen; omega
  have co := sorder out xa k xc V w2 HO2.out (by omega) hus HVS.out
  have cr := fun w3 (hb3 : Below w2.heap.size w2 w3) => rorder out xa k xc (by omega) HNU.out k 0 V w3 (und_all _ _) (by decide) HVS.out (HO2.out.below hb3)
  rw [show ((0 : Nat) : Int) = 0 from rfl] at cr
  clear hb2 hus HO
  go_wp2_with fail
  refine Calls.mono co ?_
  rintro e w3 ⟨⟨b, rfl, hb⟩, hb3⟩
  have HB3 := Lib.hid (HB2.out.trans (hb3.mono HB2.out.size))
  have cr3 := cr w3 hb3
  have HBB := Lib.hid hb
  clear co hb cr hb3
  go_wp2_with fail
  refine Calls.mono cr3 ?_
  rintro e w4 ⟨⟨b2, rfl, hb2⟩, hb4⟩
  have HB4 := Lib.hid (HB3.out.trans (hb4.mono HB3.out.size))
  have hbb : b2 = b := by
    have h := HBB.out
    cases b <;> cases b2
    · rfl
    · exact absurd (h.2 (hb2.1 rfl)) (by decide)
    · exact absurd (hb2.2 (h.1 rfl)) (by decide)
    · rfl
  subst hbb
  clear cr3 hb2 hb4
  cases b2
  all_goals
    go_wp2_with fail
    go_ret
    exact ⟨by first | rfl | simp, HB4.out⟩
end Go.Proofs.Ytbmjkieikaapfaa
