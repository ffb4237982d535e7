/-
  The law's own may and same.
-/
import Derived.Test.YtkdmnhmlkcejfaaDoorTrC
namespace Go.Proofs.YtkdmnhmlkcejfaaDoor
open Go.RowKit
set_option linter.unusedVariables false
set_option linter.unusedSimpArgs false

theorem NodesL.out {l : List Int} (h : ¬ ∀ j, j < l.length → 0 ≤ l.getD j 0 ∧ l.getD j 0 ≤ 4) : ¬ NodesL l := fun q => h fun j hj => by
  have := q.2 _ (List.getElem_mem hj)
  rwa [List.getD_eq_getElem?_getD, List.getElem?_eq_getElem hj]
theorem NodesL.of {l : List Int} (h3 : l.length ≤ 3) (h : ∀ j, j < l.length → 0 ≤ l.getD j 0 ∧ l.getD j 0 ≤ 4) : NodesL l := ⟨h3, fun x hx => by
  obtain ⟨k, hk, rfl⟩ := List.mem_iff_getElem.1 hx
  have := h k hk
  rwa [List.getD_eq_getElem?_getD, List.getElem?_eq_getElem hk] at this⟩
theorem Ints.at_ {w w' : World} {v : Value} {l : List Int} (h : Ints w v l) (hb : Below w.heap.size w w') {j : Nat} (hj : j < l.length) : ∃ a cap b off, v = .slice a l.length cap ∧ a = some ⟨b, off, none⟩ ∧ w'.cell? ⟨b, off + j, none⟩ = some (.int .i64 (l.getD j 0)) := by
  obtain ⟨a, cap, e, -, h0⟩ := h
  rcases h0 with h0 | ⟨b, off, e2, hlt, hc⟩
  · rw [h0] at hj; simp at hj
  · exact ⟨a, cap, b, off, e, e2, (hb.cell (p := ⟨b, off + j, none⟩) hlt).trans (hc j hj)⟩
set_option maxHeartbeats 3200000 in
set_option maxRecDepth 100000 in
theorem lmay (t : TA) (vm vc : Value) (w : World) (hat : ActAt t w vm vc) (hD : t.D.length + t.S.length ≤ 9223372036854775807) :
    Calls Tryd.prog 46 #[.agg (actC t vm vc)] w fun e w' => e = .returned (.bool (decide (MayT t))) ∧ Below w.heap.size w w' := by
  have hx := heap_alloc_self w (.cells (actC t vm vc) 54)
  have hb : Below w.heap.size w (w.alloc (.cells (actC t vm vc) 54)) := (Below.refl _ _).alloc (Nat.le_refl _) _
  have hat1 := hat.below hb
  obtain ⟨aM, pM, hvm⟩ : ∃ a cap, vm = .slice a t.M.length cap := by obtain ⟨a, cap, e, -⟩ := hat.1; exact ⟨a, cap, e⟩
  obtain ⟨aC, pC, hvc⟩ : ∃ a cap, vc = .slice a t.C.length cap := by obtain ⟨a, cap, e, -⟩ := hat.2; exact ⟨a, cap, e⟩
  have hmM : t.M.length ≤ 9223372036854775807 := by obtain ⟨a, cap, e, h, -⟩ := hat.1; exact h
  have hmC : t.C.length ≤ 9223372036854775807 := by obtain ⟨a, cap, e, h, -⟩ := hat.2; exact h
  have HC := Lib.hid (numsL_iff t)
  have HM := Lib.hid (mayT_eq t)
  obtain ⟨dl, hdl⟩ : ∃ n, t.D.length = n := ⟨_, rfl⟩
  obtain ⟨sl, hsl⟩ : ∃ n, t.S.length = n := ⟨_, rfl⟩
  obtain ⟨mn, hmn⟩ : ∃ n, t.M.length = n := ⟨_, rfl⟩
  obtain ⟨cn, hcn⟩ : ∃ n, t.C.length = n := ⟨_, rfl⟩
  subst hvm hvc
  rw [hdl, hsl] at hD
  rw [hmn] at hmM
  rw [hcn] at hmC
  rw [hmn, hcn] at hx hb hat1 ⊢
  have HDS := Lib.hid (And.intro hdl (And.intro hsl (And.intro hmn hcn)))
  clear hat hdl hsl hmn hcn
  go_enter Tryd.func46, Tryd.ntmps46
  go_upto_region 1 with fail
  generalize w.alloc (.cells (actC t (.slice aM mn pM) (.slice aC cn pC)) 54) = w1 at *
  obtain ⟨d0, d1, d2, d3, d4, d5, d6, d7, d8, d9, d10, d11⟩ := actIn hx
  have HX := Lib.hid (And.intro hx (And.intro hb hat1))
  clear hx hb hat1
  go_upto_region 2 with fail
  have hb2 := (Below.refl w1.heap.size w1).alloc (Nat.le_refl _) (.cells (numsV t) 3)
  have hq2 := heap_alloc_self w1 (.cells (numsV t) 3)
  have hx2 := below_at hb2 (lt_heap HX.out.1) HX.out.1
  have HX2 := Lib.hid (And.intro hx2 (And.intro (HX.out.2.1.trans (hb2.mono HX.out.2.1.size)) (HX.out.2.2.below hb2)))
  unfold numsV at hb2 hq2 HX2
  generalize w1.alloc (.cells #[.int .i64 t.W, .int .i64 t.P, .int .i64 t.A, .int .i64 t.B, .int .i64 t.aW, .int .i64 t.aA, .int .i64 t.aL] 3) = w2 at *
  have HI := Lib.hid (ints_seven (t := t) hq2)
  obtain ⟨Q, hQ⟩ : ∃ Q, w1.heap.size = Q := ⟨_, rfl⟩
  rw [hQ] at HI
  try rw [hQ]
  clear hQ hb2 hq2 hx2 HX d0 d1 d2 d3 d4 d5 d6 d7 d8 d9 d10 d11
  have HX := HX2
  clear HX2
  go_wp2_with fail
  go_loopw [4] (fun i wr => ∃ j : Nat, j ≤ 7 ∧ i = .int .i64 j ∧ wr = w2 ∧ Hid (∀ k, k < j → okN (t.nums.getD k 0) = true)) (fun i _ => 7 - (intOf i).toNat)
  case atStart => exact ⟨0, by decide, rfl, rfl, Lib.hid (fun k hk => absurd hk (by omega))⟩
  case round =>
    obtain ⟨j, hj, rfl, rfl, HA⟩ := hrel
    by_cases hj7 : j < 7
    · obtain ⟨a0, cap0, bb, off, hv, ha, hcell⟩ := HI.out.at_ (Below.refl _ _) (j := j) (by simpa [TA.nums] using hj7)
      injection hv with hv1 hv2 hv3
      rw [ha] at hv1
      injection hv1 with hv1
      injection hv1 with hv4 hv5
      subst hv4 hv5
      obtain ⟨x, hx⟩ : ∃ x, t.nums.getD j 0 = x := ⟨_, rfl⟩
      rw [hx] at hcell
      have hcell' : wr.cell? ⟨Q, j, none⟩ = some (.int .i64 x) := by simpa using hcell
      have HXj := Lib.hid hx
      clear hx hcell hv2 hv3 ha
      by_cases hok : okN x = true
      · have HOK := Lib.hid hok
        have ho := of_decide_eq_true hok
        have ho1 : ¬ x < 0 := by omega
        have ho2 : ¬ 1073741824 < x := by omega
        clear hok ho
        go_wp2_with fail
        go_roundw
        case rel =>
          refine ⟨j + 1, by omega, by go_num, trivial, Lib.hid (fun k hk => ?_)⟩
          by_cases e : k = j
          · rw [e, HXj.out]; exact HOK.out
          · exact HA.out k (by omega)
        case measure => simp [intOf]; omega
      · have HR := Lib.hid (show decide (MayT t) = false from decide_eq_false fun h => hok (by have := HC.out.1 h.1 j hj7; rwa [HXj.out] at this))
        have ho' : ¬ (0 ≤ x ∧ x ≤ 1073741824) := fun h => hok (decide_eq_true h)
        have ho : x < 0 ∨ (¬ x < 0 ∧ 1073741824 < x) := by omega
        clear hok ho'
        rcases ho with ho | ⟨ho, ho2⟩
        · go_wp2_with fail
          go_ret
          exact ⟨ret_bool HR.out.symm, HX.out.2.1⟩
        · go_wp2_with fail
          go_ret
          exact ⟨ret_bool HR.out.symm, HX.out.2.1⟩
    · obtain rfl : j = 7 := by omega
      have HR := Lib.hid (HM.out (HC.out.2 HA.out))
      obtain ⟨w2, hw2⟩ : ∃ w2, w2 = wr := ⟨_, rfl⟩
      subst hw2
      obtain ⟨d0, d1, d2, d3, d4, d5, d6, d7, d8, d9, d10, d11⟩ := actIn HX.out.1
      go_wp2_with fail
      go_loopw [5] (fun i wr => ∃ j : Nat, j ≤ mn ∧ i = .int .i64 j ∧ wr = w2 ∧ Hid (∀ k, k < j → 0 ≤ (t.M).getD k 0 ∧ (t.M).getD k 0 ≤ 4)) (fun i _ => mn - (intOf i).toNat)
      case atStart => exact ⟨0, Nat.zero_le _, rfl, rfl, Lib.hid (fun k hk => absurd hk (by omega))⟩
      case round =>
        obtain ⟨j, hj, rfl, rfl, HA1⟩ := hrel
        by_cases hjn : j < mn
        · obtain ⟨a0, cap0, bb, off, hv, ha, hcell⟩ := (HX.out.2.2.1).at_ (Below.refl _ _) (j := j) (by have := HDS.out.2.2.1; omega)
          injection hv with hv1 hv2 hv3
          subst hv1
          subst ha
          obtain ⟨x, hx⟩ : ∃ x, (t.M).getD j 0 = x := ⟨_, rfl⟩
          rw [hx] at hcell
          have HXj := Lib.hid hx
          clear hx hv2 hv3
          by_cases hok : 0 ≤ x ∧ x ≤ 4
          · have HOK := Lib.hid hok
            have ho1 : ¬ x < 0 := by omega
            have ho2 : ¬ 4 < x := by omega
            clear hok
            go_wp2_with fail
            go_roundw
            case rel =>
              refine ⟨j + 1, by omega, by go_num, trivial, Lib.hid (fun k hk => ?_)⟩
              by_cases e : k = j
              · rw [e, HXj.out]; exact HOK.out
              · exact HA1.out k (by omega)
            case measure => simp [intOf]; omega
          · have HR2 := Lib.hid (show decide (MayT t) = false from decide_eq_false fun h => by
              have q := h.2.1.2 _ (List.getElem_mem (show j < (t.M).length by have := HDS.out.2.2.1; omega))
              have e := HXj.out
              rw [List.getD_eq_getElem?_getD, List.getElem?_eq_getElem (show j < (t.M).length by have := HDS.out.2.2.1; omega)] at e
              simp only [Option.getD_some] at e
              rw [e] at q
              exact hok q)
            have ho : x < 0 ∨ (¬ x < 0 ∧ 4 < x) := by omega
            clear hok
            rcases ho with ho | ⟨ho, ho2⟩
            · go_wp2_with fail
              go_ret
              exact ⟨ret_bool HR2.out.symm, HX.out.2.1⟩
            · go_wp2_with fail
              go_ret
              exact ⟨ret_bool HR2.out.symm, HX.out.2.1⟩
        · obtain rfl : mn = j := by omega
          obtain ⟨w2, hw2⟩ : ∃ w2, w2 = wr := ⟨_, rfl⟩
          subst hw2
          go_wp2_with fail
          go_loopw [6] (fun i wr => ∃ j : Nat, j ≤ cn ∧ i = .int .i64 j ∧ wr = w2 ∧ Hid (∀ k, k < j → 0 ≤ (t.C).getD k 0 ∧ (t.C).getD k 0 ≤ 4)) (fun i _ => cn - (intOf i).toNat)
          case atStart => exact ⟨0, Nat.zero_le _, rfl, rfl, Lib.hid (fun k hk => absurd hk (by omega))⟩
          case round =>
            obtain ⟨j, hj, rfl, rfl, HA2⟩ := hrel
            by_cases hjn : j < cn
            · obtain ⟨a0, cap0, bb, off, hv, ha, hcell⟩ := (HX.out.2.2.2).at_ (Below.refl _ _) (j := j) (by have := HDS.out.2.2.2; omega)
              injection hv with hv1 hv2 hv3
              subst hv1
              subst ha
              obtain ⟨x, hx⟩ : ∃ x, (t.C).getD j 0 = x := ⟨_, rfl⟩
              rw [hx] at hcell
              have HXj := Lib.hid hx
              clear hx hv2 hv3
              by_cases hok : 0 ≤ x ∧ x ≤ 4
              · have HOK := Lib.hid hok
                have ho1 : ¬ x < 0 := by omega
                have ho2 : ¬ 4 < x := by omega
                clear hok
                go_wp2_with fail
                go_roundw
                case rel =>
                  refine ⟨j + 1, by omega, by go_num, trivial, Lib.hid (fun k hk => ?_)⟩
                  by_cases e : k = j
                  · rw [e, HXj.out]; exact HOK.out
                  · exact HA2.out k (by omega)
                case measure => simp [intOf]; omega
              · have HR2 := Lib.hid (show decide (MayT t) = false from decide_eq_false fun h => by
                  have q := h.2.2.1.2 _ (List.getElem_mem (show j < (t.C).length by have := HDS.out.2.2.2; omega))
                  have e := HXj.out
                  rw [List.getD_eq_getElem?_getD, List.getElem?_eq_getElem (show j < (t.C).length by have := HDS.out.2.2.2; omega)] at e
                  simp only [Option.getD_some] at e
                  rw [e] at q
                  exact hok q)
                have ho : x < 0 ∨ (¬ x < 0 ∧ 4 < x) := by omega
                clear hok
                rcases ho with ho | ⟨ho, ho2⟩
                · go_wp2_with fail
                  go_ret
                  exact ⟨ret_bool HR2.out.symm, HX.out.2.1⟩
                · go_wp2_with fail
                  go_ret
                  exact ⟨ret_bool HR2.out.symm, HX.out.2.1⟩
            · obtain rfl : cn = j := by omega
              have hdl : (⟨t.D.toArray⟩ : ByteArray).size = dl := HDS.out.1
              have hsl : (⟨t.S.toArray⟩ : ByteArray).size = sl := HDS.out.2.1
              by_cases m3 : mn ≤ 3
              · by_cases c3 : cn ≤ 3
                · have hM := NodesL.of (l := t.M) (by have := HDS.out.2.2.1; omega) (fun k hk => HA1.out k (by have := HDS.out.2.2.1; omega))
                  have hC := NodesL.of (l := t.C) (by have := HDS.out.2.2.2; omega) (fun k hk => HA2.out k (by have := HDS.out.2.2.2; omega))
                  have HR3 := HR.out
                  rw [decide_eq_true hM, decide_eq_true hC, HDS.out.1, HDS.out.2.1] at HR3
                  have HR4 := Lib.hid HR3
                  have m3' : (mn : Int) ≤ 3 := by omega
                  have c3' : (cn : Int) ≤ 3 := by omega
                  clear hM hC HR3
                  go_wp2_with fail
                  go_ret
                  refine ⟨ret_bool ?_, HX.out.2.1⟩
                  rw [HR4.out]
                  simp
                  try omega
                · have HR4 := Lib.hid (show decide (MayT t) = false from decide_eq_false fun h => c3 (by have := h.2.2.1.1; have := HDS.out.2.2.2; omega))
                  have m3' : (mn : Int) ≤ 3 := by omega
                  have c3' : ¬ (cn : Int) ≤ 3 := by omega
                  go_wp2_with fail
                  go_ret
                  exact ⟨ret_bool HR4.out.symm, HX.out.2.1⟩
              · have HR4 := Lib.hid (show decide (MayT t) = false from decide_eq_false fun h => m3 (by have := h.2.1.1; have := HDS.out.2.2.1; omega))
                have m3' : ¬ (mn : Int) ≤ 3 := by omega
                go_wp2_with fail
                go_ret
                exact ⟨ret_bool HR4.out.symm, HX.out.2.1⟩
end Go.Proofs.YtkdmnhmlkcejfaaDoor
