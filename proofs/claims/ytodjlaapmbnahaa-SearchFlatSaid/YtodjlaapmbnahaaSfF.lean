/-
  SearchFlat: its law.
-/
import Derived.Test.YtodjlaapmbnahaaSfE
import Derived.Test.YtodjlaapmbnahaaSchF
namespace Go.Proofs.Ytodjlaapmbnahaa
open Go.RowKit
set_option linter.unusedVariables false
set_option linter.unusedSimpArgs false

theorem psuses (E : List Ev) (B block : Int) (v : Value) (w : World) (hE : Elts w Ev.c 10 v E) (hok : ∀ e ∈ E, EvOk e) (hn : E.length ≤ 100000) :
    Calls Try.prog 12 #[v, .int .i64 B, .int .i64 block] w (UsesP E B block w) := by
  have c := puses E B block v w hE hok hn
  unfold UsesP at c ⊢
  go_enter Try.func12, Try.ntmps12
  go_wp2_with fail
  refine Calls.mono c ?_
  rintro e w1 ⟨uv, rfl, hown, hb⟩
  have H := Lib.hid (And.intro hown hb)
  clear c hown hb
  go_wp2_with fail
  go_ret
  exact ⟨_, rfl, H.out⟩
theorem br_same {a b : Bool} {p : Prop} (ha : a = true ↔ p) (hb : b = true ↔ p) : a = b := by
  cases a <;> cases b
  · rfl
  · exact absurd (ha.2 (hb.1 rfl)) (by simp)
  · exact absurd (hb.2 (ha.1 rfl)) (by simp)
  · rfl
set_option maxHeartbeats 1600000 in
set_option maxRecDepth 100000 in
theorem searchflat_law (a : Option Addr) (len cap : Nat) (w : World) (hf : Fits w (.slice (.two (.two (.int .i64) (.two (.int .i64) (.two (.int .i64) (.two .str (.two .bool .unit))))) (.two .bool (.two (.int .i64) (.two .str .unit))))) [.slice a len cap]) :
    Calls Try.prog 5 #[.slice a len cap] w fun e w' => e = .returned (.bool true) ∧ Below w.heap.size w w' := by
  have c := pevents a len cap w hf
  unfold EvsP at c
  clear hf
  go_enter Try.func5, Try.ntmps5
  go_wp2_with fail
  refine Calls.mono c ?_
  rintro e w1 ⟨hv, E, n, rfl, hE, hJ, hn, hEl, hb1⟩
  obtain ⟨hu, hpw, hnz, hok⟩ := uses_hu hJ hn hEl
  have hel := hE.elts
  have c1 := psuses E 1 0 hv w1 hel hJ.ok (by omega)
  unfold UsesP at c1
  have cF := fun wz (hz : Below w1.heap.size w1 wz) => pfits E 1 0 hv wz (hel.below hz) hJ.ok (by omega) hok
  unfold FitsP at cF
  have hfo := fits_ord hu hpw hnz
  have HB1 := Lib.hid hb1
  have HFO := Lib.hid (And.intro hfo hok)
  clear c hE hJ hel hu hpw hnz hok hfo hb1
  go_wp2_with fail
  refine Calls.mono c1 ?_
  rintro e w2 ⟨uv, rfl, hown, hb2⟩
  generalize hus : usesN E 1 0 E.length = us at *
  obtain ⟨ua, uc, rfl⟩ := rowForm hown
  have HU2 := Lib.hid (And.intro (SR.owns hown) hb2)
  clear c1 hown hb2 hus
  go_wp2_with fail
  refine Calls.mono (awake40 w2) ?_
  rintro e w3 ⟨rfl, hb3⟩
  have HB3 := Lib.hid (HU2.out.2.trans (hb3.mono HU2.out.2.size))
  have HS3 := Lib.hid (HU2.out.1.below hb3)
  clear hb3
  by_cases h12 : 12 < us.length
  · have h12' : (12 : Int) < (us.length : Int) := by omega
    have HF := Lib.hid (HB1.out.trans (HB3.out.mono HB1.out.size))
    clear cF h12
    go_wp2_with fail
    go_ret
    exact ⟨rfl, HF.out⟩
  · have h12' : ¬ ((12 : Int) < (us.length : Int)) := by omega
    have c2 := cF w3 HB3.out
    have HL := Lib.hid h12
    clear cF h12
    go_wp2_with fail
    refine Calls.mono c2 ?_
    rintro e w4 ⟨r0, rfl, hr0, hb4⟩
    have HB4 := Lib.hid (HB3.out.trans (hb4.mono HB3.out.size))
    have HS4 := Lib.hid (HS3.out.below hb4)
    have HR0 := Lib.hid hr0
    clear c2 hr0 hb4
    go_wp2_with fail
    refine Calls.mono (zeros_any _) ?_
    rintro e w5 ⟨rfl, rfl⟩
    have c3 := sorder (us.map toUS) ua us.length uc (zeroL 32) w4 (by rw [uCs_uC]; exact HS4.out) (by have := HL.out; omega) (fun u hu => by obtain ⟨u', hu', rfl⟩ := List.mem_map.1 hu; exact (HFO.out.2 u' hu').val) (by rw [zeroL_size]; decide)
    unfold BR at c3
    go_wp2_with fail
    refine Calls.mono c3 ?_
    rintro e w6 ⟨⟨b, rfl, hb⟩, hb6⟩
    obtain rfl : r0 = b := br_same HR0.out (hb.trans HFO.out.1.symm)
    have HF := Lib.hid (HB1.out.trans ((HB4.out.trans (hb6.mono HB4.out.size)).mono HB1.out.size))
    clear c3 hb hb6
    go_wp2_with fail
    go_ret
    exact ⟨by simp, HF.out⟩
end Go.Proofs.Ytodjlaapmbnahaa
