/-
  tarnlaw41's many, good, stays.
-/
import Derived.Test.YtadejhlljdcocaaPlcF
namespace Go.Proofs.Ytadejhlljdcocaa
open Go.RowKit
set_option linter.unusedVariables false
set_option linter.unusedSimpArgs false

def upA (u : Nat → Bool) : Array Value := #[.bool (u 0), .bool (u 1), .bool (u 2), .bool (u 3), .bool (u 4)]
theorem upA_at (u : Nat → Bool) (k : Nat) (hk : k < 5) : (upA u)[k]? = some (.bool (u k)) := by
  match k, hk with
  | 0, _ => rfl
  | 1, _ => rfl
  | 2, _ => rfl
  | 3, _ => rfl
  | 4, _ => rfl
set_option maxHeartbeats 1600000 in
set_option maxRecDepth 100000 in
theorem many41 (u : Nat → Bool) (w : World) : Calls Try.prog 57 #[.agg (upA u)] w fun e w' => e = .returned (.int .i64 (upK u 5).length) ∧ Below w.heap.size w w' := by
  have hx := heap_alloc_self w (.cells (upA u) 111)
  have hb := (Below.refl w.heap.size w).alloc (Nat.le_refl _) (.cells (upA u) 111)
  have HX := hx
  unfold upA at HX hb
  have HX := Lib.hid (And.intro HX hb)
  clear hx hb
  unfold upA
  go_enter Try.func57, Try.ntmps57
  go_upto_region 1 with fail
  generalize w.alloc (.cells #[.bool (u 0), .bool (u 1), .bool (u 2), .bool (u 3), .bool (u 4)] 111) = w1 at *
  go_wp2_with fail
  go_loopw [3, 4] (fun n i wr => ∃ j : Nat, j ≤ 5 ∧ i = .int .i64 j ∧ n = .int .i64 (upK u j).length ∧ wr = w1) (fun _ i _ => 5 - (intOf i).toNat)
  case atStart => exact ⟨0, by decide, rfl, rfl, rfl⟩
  case round =>
    obtain ⟨j, hj, rfl, rfl, hw⟩ := hrel
    have hw' := hw.symm
    subst hw'
    have hul := upK_le u j
    by_cases hlt : j < 5
    · have d := pcell HX.out.1 j (upA_at u j hlt)
      have hn : upK u (j + 1) = upK u j ++ if u j then [(j : Int)] else [] := rfl
      obtain ⟨q, hq⟩ : ∃ q, u j = q := ⟨_, rfl⟩
      rw [hq] at d hn
      obtain ⟨m, hm⟩ : ∃ m, (upK u j).length = m := ⟨_, rfl⟩
      have hn2 : (upK u (j + 1)).length = m + if q = true then 1 else 0 := by rw [hn, List.length_append, hm]; cases q <;> simp
      rw [hm] at hul
      rw [hm]
      have HN := Lib.hid hn2
      clear hn hm hq hn2
      cases q
      · go_wp2_with fail
        go_roundw
        case rel => exact ⟨j + 1, by omega, by go_num, by rw [HN.out]; simp, by first | rfl | trivial⟩
        case measure => simp [intOf]; omega
      · go_wp2_with fail
        go_roundw
        case rel => exact ⟨j + 1, by omega, by go_num, by rw [HN.out]; simp, by first | rfl | trivial⟩
        case measure => simp [intOf]; omega
    · obtain rfl : j = 5 := by omega
      go_wp2_with fail
      go_ret
      exact ⟨rfl, HX.out.2⟩
theorem nodup_neP {T : List Int} (h : T.Nodup) {p q : Nat} (hq : q < p) (hp : p < T.length) : T.getD p 0 ≠ T.getD q 0 := by
  have hq2 : q < T.length := by omega
  simp only [List.getD_eq_getElem?_getD, List.getElem?_eq_getElem hp, List.getElem?_eq_getElem hq2, Option.getD_some]
  intro e
  exact List.pairwise_iff_getElem.1 h q p hq2 hp hq e.symm
set_option maxHeartbeats 3200000 in
set_option maxRecDepth 100000 in
theorem good41 (u : Nat → Bool) (R : List Int) (h1 : R.Nodup) (h2 : ∀ x ∈ R, ∃ i : Nat, i < 5 ∧ u i = true ∧ x = i) (h3 : R.length ≤ 3) (w : World) (v : Value) (hv : SR w v 1 R.length (nCells R)) :
    Calls Try.prog 59 #[v, .agg (upA u)] w fun e w' => e = .returned (.bool true) ∧ Below w.heap.size w w' := by
  have hx := heap_alloc_self w (.cells (upA u) 111)
  have hb := (Below.refl w.heap.size w).alloc (Nat.le_refl _) (.cells (upA u) 111)
  obtain ⟨av, pv, rfl, hp1, hp2⟩ := hv.form
  have HX := And.intro hx (And.intro hb (hv.below hb))
  unfold upA at HX
  have HX := Lib.hid HX
  unfold maxLen at hp2
  have H12 := Lib.hid (And.intro h1 h2)
  clear hx hb hv h1 h2
  unfold upA
  go_enter Try.func59, Try.ntmps59
  go_upto_region 1 with fail
  generalize w.alloc (.cells #[.bool (u 0), .bool (u 1), .bool (u 2), .bool (u 3), .bool (u 4)] 111) = w1 at *
  go_wp2_with fail
  go_loopw [5] (fun i wr => ∃ j t : Nat, j ≤ R.length ∧ i = .int .i64 j ∧ wr = w1.drewN t) (fun i _ => R.length - (intOf i).toNat)
  case atStart => exact ⟨0, 0, Nat.zero_le _, rfl, rfl⟩
  case round =>
    obtain ⟨j, t, hj, rfl, rfl⟩ := hrel
    by_cases hlt : j < R.length
    · obtain ⟨b, off, rfl, -, hcell⟩ := SR.int HX.out.2.2 (by omega)
      have c0 := hcell j hlt
      have hmem : R.getD j 0 ∈ R := by rw [List.getD_eq_getElem?_getD, List.getElem?_eq_getElem hlt]; exact List.getElem_mem _
      obtain ⟨i, hi5, hui, hxi⟩ := H12.out.2 _ hmem
      rw [hxi] at c0
      have d := pcell HX.out.1 i (upA_at u i hi5)
      rw [hui] at d
      have HXI := Lib.hid hxi
      clear hcell hmem hui hxi
      go_wp2_with fail
      go_loopw [6] (fun k wx => ∃ y t2 : Nat, y ≤ j ∧ k = .int .i64 y ∧ wx = w1.drewN t2) (fun k _ => j - (intOf k).toNat)
      case atStart => exact ⟨0, t, Nat.zero_le _, rfl, rfl⟩
      case round =>
        obtain ⟨y, t2, hy, rfl, rfl⟩ := hrel
        by_cases hyj : y < j
        · obtain ⟨b', off', he, -, hcell⟩ := SR.int HX.out.2.2 (by omega)
          cases he
          have c1 := hcell y (by omega)
          have hne := nodup_neP H12.out.1 hyj hlt
          rw [HXI.out] at hne
          obtain ⟨z, hz⟩ : ∃ z, R.getD y 0 = z := ⟨_, rfl⟩
          rw [hz] at c1 hne
          have hne2 : ((i : Int) == z) = false := by simpa using hne
          clear hcell hz hne
          go_wp2_with fail
          go_quiet (fail)
          go_wp2_with fail
          go_roundw
          case rel => exact ⟨y + 1, _, by omega, by simp, rfl⟩
          case measure => simp [intOf]; omega
        · go_wp2_with fail
          go_roundw
          case rel => exact ⟨j + 1, t2, by omega, by simp, rfl⟩
          case measure => simp [intOf]; omega
    · obtain rfl : j = R.length := by omega
      go_wp2_with fail
      go_ret
      exact ⟨by simp; omega, below_drewN' HX.out.2.1 t⟩
theorem filt_next (U : List Int) (L : List Int) (i : Nat) (hi : i < L.length) : (L.take (i + 1)).filter (· ∈ U) = (L.take i).filter (· ∈ U) ++ if L.getD i 0 ∈ U then [L.getD i 0] else [] := by
  rw [List.take_succ_eq_append_getElem hi, List.filter_append]
  have e : L.getD i 0 = L[i] := by simp [List.getD, hi]
  rw [e]
  by_cases h : L[i] ∈ U <;> simp [h]
theorem filt_at (U L t : List Int) (i : Nat) (hi : i < L.length) (h : L.getD i 0 ∈ U) : ((L.take i).filter (· ∈ U)).length < (L.filter (· ∈ U) ++ t).length ∧ (L.filter (· ∈ U) ++ t).getD ((L.take i).filter (· ∈ U)).length 0 = L.getD i 0 := by
  have e1 := filt_next U L i hi
  rw [if_pos h] at e1
  have e2 : L.filter (· ∈ U) = (L.take i).filter (· ∈ U) ++ L.getD i 0 :: (L.drop (i + 1)).filter (· ∈ U) := by
    conv => lhs; rw [← List.take_append_drop (i + 1) L, List.filter_append, e1]
    simp
  rw [e2]
  generalize (L.take i).filter (· ∈ U) = F
  refine ⟨by simp, ?_⟩
  simp [List.getD]
set_option maxHeartbeats 3200000 in
set_option maxRecDepth 100000 in
theorem stays41 (u : Nat → Bool) (L U t : List Int) (hU : ∀ x, x ∈ U ↔ ∃ i : Nat, i < 5 ∧ u i = true ∧ x = i) (hL : L.length ≤ 100) (w : World) (v n : Value) (hv : SR w v 1 L.length (nCells L)) (hn : SR w n 1 (L.filter (· ∈ U) ++ t).length (nCells (L.filter (· ∈ U) ++ t))) :
    Calls Try.prog 60 #[v, n, .agg (upA u)] w fun e w' => e = .returned (.bool true) ∧ Below w.heap.size w w' := by
  have hx := heap_alloc_self w (.cells (upA u) 111)
  have hb := (Below.refl w.heap.size w).alloc (Nat.le_refl _) (.cells (upA u) 111)
  obtain ⟨av, pv, rfl, hp1, hp2⟩ := hv.form
  obtain ⟨an, pn, rfl, hp3, hp4⟩ := hn.form
  have HX := And.intro hx (And.intro hb (And.intro (hv.below hb) (hn.below hb)))
  unfold upA at HX
  have HX := Lib.hid HX
  unfold maxLen at hp2 hp4
  have HU := Lib.hid hU
  have HNL : Hid (∀ i, i < L.length → L.getD i 0 ∈ U → ((L.take i).filter (· ∈ U)).length < (L.filter (· ∈ U) ++ t).length ∧ (L.filter (· ∈ U) ++ t).getD ((L.take i).filter (· ∈ U)).length 0 = L.getD i 0) := Lib.hid (fun i hi h => filt_at U L t i hi h)
  clear hx hb hv hn hU
  generalize L.filter (· ∈ U) ++ t = NW at *
  unfold upA
  go_enter Try.func60, Try.ntmps60
  go_upto_region 1 with fail
  generalize w.alloc (.cells #[.bool (u 0), .bool (u 1), .bool (u 2), .bool (u 3), .bool (u 4)] 111) = w1 at *
  go_wp2_with fail
  go_loopw [7, 8] (fun k i wr => ∃ j t : Nat, j ≤ L.length ∧ i = .int .i64 j ∧ k = .int .i64 ((L.take j).filter (· ∈ U)).length ∧ wr = w1.drewN t) (fun _ i _ => L.length - (intOf i).toNat)
  case atStart => exact ⟨0, 0, Nat.zero_le _, rfl, rfl, rfl⟩
  case round =>
    obtain ⟨j, t, hj, rfl, rfl, rfl⟩ := hrel
    by_cases hlt : j < L.length
    · obtain ⟨b, off, rfl, -, hcell⟩ := SR.int HX.out.2.2.1 (by omega)
      have c0 := hcell j hlt
      have hnx := filt_next U L j hlt
      have hat := HNL.out j hlt
      have hfl : ((L.take j).filter (· ∈ U)).length ≤ j := Nat.le_trans (List.length_filter_le _ _) (by rw [List.length_take]; omega)
      obtain ⟨x, hx⟩ : ∃ x, L.getD j 0 = x := ⟨_, rfl⟩
      rw [hx] at c0 hnx hat
      have hnl : ((L.take (j + 1)).filter (· ∈ U)).length = ((L.take j).filter (· ∈ U)).length + if x ∈ U then 1 else 0 := by
        rw [hnx, List.length_append]; split <;> rfl
      obtain ⟨F, hF⟩ : ∃ F, ((L.take j).filter (· ∈ U)).length = F := ⟨_, rfl⟩
      rw [hF] at hnl hat hfl
      rw [hF]
      have HNX := Lib.hid hnl
      have HAT := Lib.hid hat
      clear hcell hnx hx hat hnl hF
      by_cases q0 : x < 0
      · have hnu : ¬ x ∈ U := fun h => by obtain ⟨i, _, _, e⟩ := (HU.out x).1 h; omega
        have HE := Lib.hid (show ((L.take (j + 1)).filter (· ∈ U)).length = F from by rw [HNX.out, if_neg hnu]; rfl)
        clear hnu
        go_wp2_with fail
        go_roundw
        case rel => exact ⟨j + 1, t, by omega, by go_num, by rw [HE.out], by first | rfl | trivial⟩
        case measure => simp [intOf]; omega
      · by_cases q1 : 4 < x
        · have hnu : ¬ x ∈ U := fun h => by obtain ⟨i, _, _, e⟩ := (HU.out x).1 h; omega
          have HE := Lib.hid (show ((L.take (j + 1)).filter (· ∈ U)).length = F from by rw [HNX.out, if_neg hnu]; rfl)
          clear hnu
          go_wp2_with fail
          go_roundw
          case rel => exact ⟨j + 1, t, by omega, by go_num, by rw [HE.out], by first | rfl | trivial⟩
          case measure => simp [intOf]; omega
        · obtain ⟨i, rfl⟩ := Int.eq_ofNat_of_zero_le (show 0 ≤ x by omega)
          have hi5 : i < 5 := by omega
          have d := pcell HX.out.1 i (upA_at u i hi5)
          obtain ⟨q, hq⟩ : ∃ q, u i = q := ⟨_, rfl⟩
          have hmu : (i : Int) ∈ U ↔ q = true := by
            rw [HU.out, ← hq]
            constructor
            · rintro ⟨k, h1, h2, h3⟩
              have : k = i := by omega
              rw [← this]; exact h2
            · exact fun h => ⟨i, hi5, h, rfl⟩
          rw [hq] at d
          have HMU := Lib.hid hmu
          clear hq hmu
          cases q
          · have HE := Lib.hid (show ((L.take (j + 1)).filter (· ∈ U)).length = F from by rw [HNX.out, if_neg (fun h => by have := HMU.out.1 h; simp at this)]; rfl)
            go_wp2_with fail
            go_roundw
            case rel => exact ⟨j + 1, t, by omega, by go_num, by rw [HE.out], by first | rfl | trivial⟩
            case measure => simp [intOf]; omega
          · have hin := HMU.out.2 (by first | rfl | trivial)
            obtain ⟨hF1, hF2⟩ := HAT.out hin
            have HE := Lib.hid (show ((L.take (j + 1)).filter (· ∈ U)).length = F + 1 from by rw [HNX.out, if_pos hin])
            obtain ⟨b2, o2, rfl, -, hc2⟩ := SR.int HX.out.2.2.2 (by omega)
            have c2 := hc2 F hF1
            rw [hF2] at c2
            have hge : decide (NW.length ≤ F) = false := decide_eq_false (by omega)
            clear hc2 hF2 hin
            go_wp2_with fail
            go_quiet (fail)
            go_wp2_with fail
            go_roundw
            case rel => exact ⟨j + 1, _, by omega, by go_num, by rw [HE.out]; go_num, rfl⟩
            case measure => simp [intOf]; omega
    · obtain rfl : j = L.length := by omega
      go_wp2_with fail
      go_ret
      exact ⟨rfl, below_drewN' HX.out.2.1 t⟩
end Go.Proofs.Ytadejhlljdcocaa
