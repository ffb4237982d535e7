/-
  Lists of entries: tarnref13.All.
-/
import Derived.Test.YtkdmnhmlkcejfaaEelR
import Derived.Test.YtkdmnhmlkcejfaaEntA
import Derived.Test.YtkdmnhmlkcejfaaEntB
import Derived.Test.YtkdmnhmlkcejfaaRln
import Derived.Test.YtkdmnhmlkcejfaaMask
import Derived.Test.YtkdmnhmlkcejfaaHeld
namespace Go.Proofs.Ytkdmnhmlkcejfaa
open Go.RowKit
set_option linter.unusedVariables false
set_option linter.unusedSimpArgs false

set_option maxHeartbeats 6400000 in
set_option maxRecDepth 100000 in
theorem rall13 (es fs : List EN) (u v : Value) (w : World) (hu : Elts w EN.cells 7 u es) (hv : Elts w EN.cells 7 v fs) (hes : ∀ e ∈ es, e.at_ w) (hfs : ∀ e ∈ fs, e.at_ w) :
    Calls Try.prog 21 #[u, v] w fun e w' => e = .returned (.bool (allE es fs)) ∧ Below w.heap.size w w' := by
  obtain ⟨ua, uc, rfl, hu1, hu2, hu3⟩ := hu
  obtain ⟨va, vc, rfl, hv1, hv2, hv3⟩ := hv
  have HU := Lib.hid (show Elts w EN.cells 7 (.slice ua es.length uc) es from ⟨ua, uc, rfl, hu1, hu2, hu3⟩)
  have HV := Lib.hid (show Elts w EN.cells 7 (.slice va fs.length vc) fs from ⟨va, vc, rfl, hv1, hv2, hv3⟩)
  have HA := Lib.hid (And.intro hes hfs)
  unfold maxLen at hu2 hv2
  obtain ⟨n, hn⟩ : ∃ n, es.length = n := ⟨_, rfl⟩
  obtain ⟨m, hm⟩ : ∃ m, fs.length = m := ⟨_, rfl⟩
  rw [hn] at HU hu1
  rw [hm] at HV hv1
  rw [hn, hm]
  have HN := Lib.hid (And.intro hn hm)
  obtain ⟨R, hR⟩ : ∃ R, allE es fs = R := ⟨_, rfl⟩
  rw [hR]
  have HR := Lib.hid hR
  clear hu3 hv3 hes hfs hn hm hR
  by_cases hnm : n = m
  · subst hnm
    go_enter Try.func21, Try.ntmps21
    go_wp2_with fail
    go_loopw [5] (fun iv wr => ∃ k : Nat, iv = .int .i64 k ∧ k ≤ n ∧ SameTo es fs k ∧ Below w.heap.size w wr) (fun iv _ => n - (intOf iv).toNat)
    case atStart => exact ⟨0, rfl, by omega, fun j hj => by omega, Below.refl _ _⟩
    case round =>
      obtain ⟨k, rfl, hk, hst, hb⟩ := hrel
      have HST := Lib.hid hst
      have HB := Lib.hid hb
      by_cases hlt : k < n
      · have hki : (k : Int) < (n : Int) := by omega
        obtain ⟨x, hx⟩ : ∃ x, es[k]? = some x := ⟨_, List.getElem?_eq_getElem (by have := HN.out.1; omega)⟩
        obtain ⟨y, hy⟩ : ∃ y, fs[k]? = some y := ⟨_, List.getElem?_eq_getElem (by have := HN.out.2; omega)⟩
        have hxa := CFat.below (HA.out.1 x (List.mem_of_getElem? hx)) hb
        have hya := CFat.below (HA.out.2 y (List.mem_of_getElem? hy)) hb
        have hbd : Below wr.heap.size wr wr.drew := below_drew' (Below.refl _ _)
        have cs := rsameE x.t x.x x.c y.t y.x y.c x.a1 x.a2 y.a1 y.a2 x.q1 x.q2 y.q1 y.q2 wr.drew (hxa.below hbd) (hya.below hbd)
        obtain ⟨g, off, rfl, hg, l0, l1, l2, l3, l4, l5, l6⟩ := en_loads HU.out hb hx
        obtain ⟨g2, off2, hg2e, hg2, r0, r1, r2, r3, r4, r5, r6⟩ := en_loads HV.out hb hy
        subst hg2e
        have HXY := Lib.hid (And.intro hx hy)
        obtain ⟨sb, hsb⟩ : ∃ sb, sameE x.t x.x x.c y.t y.x y.c = sb := ⟨_, rfl⟩
        rw [hsb] at cs
        have HSB := Lib.hid (show sameEN x y = sb from hsb)
        clear hst hb hx hy hxa hya hg hg2 hbd hsb
        go_upto_region 6 with fail
        go_still_tail 8, (by kernel_rfl)
        change wpList _ _ _ _ _ wr.drew
        go_wp2_with fail
        refine Calls.mono cs ?_
        rintro ev W7 ⟨rfl, hb7⟩
        have HB7 := Lib.hid (HB.out.trans ((below_of_drew hb7).mono HB.out.size))
        clear hb7 cs l0 l1 l2 l3 l4 l5 l6 r0 r1 r2 r3 r4 r5 r6
        cases sb
        · have hfin : R = false := by rw [← HR.out]; exact allE_false es fs k x y HXY.out.1 HXY.out.2 HSB.out
          have HFIN := Lib.hid hfin
          clear hfin
          go_wp2_with fail
          go_ret
          exact ⟨ret_bool HFIN.out.symm, HB7.out⟩
        · go_wp2_with fail
          go_roundw
          case rel => exact ⟨k + 1, by go_num, by omega, sameTo_next HST.out HXY.out.1 HXY.out.2 HSB.out, HB7.out⟩
          case measure => simp [intOf]; omega
      · obtain rfl : k = n := by omega
        have hfin : R = true := by rw [← HR.out]; exact sameTo_all hst HN.out.1 HN.out.2
        have HFIN := Lib.hid hfin
        clear hfin hst hb
        go_wp2_with fail
        go_ret
        exact ⟨ret_bool HFIN.out.symm, HB.out⟩
  · have hne : ((n : Int) != (m : Int)) = true := by
      simp only [bne_iff_ne, ne_eq]
      omega
    have hne2 : ((n : Int) == (m : Int)) = false := by
      simp only [beq_eq_false_iff_ne, ne_eq]
      omega
    have hfin : R = false := by rw [← HR.out]; exact allE_len es fs (by rw [HN.out.1, HN.out.2]; exact hnm)
    have HFIN := Lib.hid hfin
    clear hfin
    go_enter Try.func21, Try.ntmps21
    go_wp2_with fail
    go_ret
    exact ⟨ret_bool HFIN.out.symm, Below.refl _ _⟩
end Go.Proofs.Ytkdmnhmlkcejfaa
