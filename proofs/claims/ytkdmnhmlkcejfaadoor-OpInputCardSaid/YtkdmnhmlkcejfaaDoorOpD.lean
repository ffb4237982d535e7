/-
  May a configuration's lists be? The law's own question.
-/
import Derived.Test.YtkdmnhmlkcejfaaDoorOpA
namespace Go.Proofs.YtkdmnhmlkcejfaaDoor
open Go.RowKit
set_option linter.unusedVariables false
set_option linter.unusedSimpArgs false

def allOk (l : List Int) : Bool := okK l l.length
theorem allOk_bad {l : List Int} {k : Nat} (hk : k < l.length) (h : okK l (k + 1) = false) : allOk l = false := by
  cases e : allOk l
  · rfl
  · rw [okK_le l l.length (k + 1) (by omega) e] at h; exact h
def validB (c : CF) : Bool := allOk c.M && (allOk c.C && (decide (c.M.length ≤ 3) && (decide (c.C.length ≤ 3) && decide (1 ≤ c.k))))
theorem valid_m {c : CF} (h : allOk c.M = false) : validB c = false := by simp [validB, h]
theorem valid_c {c : CF} (h : allOk c.C = false) : validB c = false := by simp [validB, h]
theorem in_take {l : List Int} {m k : Nat} {x : Int} (hm : m < k) (hk : k ≤ l.length) (h : l.getD m 0 = x) : x ∈ l.take k := by
  have h1 : m < (l.take k).length := by rw [List.length_take]; omega
  have h2 : (l.take k)[m] = x := by
    rw [List.getElem_take, ← h]
    simp [List.getD, show m < l.length by omega]
  rw [← h2]
  exact List.getElem_mem h1
set_option maxHeartbeats 6400000 in
set_option maxRecDepth 40000 in
theorem ovalid (c : CF) (a1 a2 : Option Addr) (q1 q2 : Nat) (w : World) (h : CFat c w (.slice a1 c.M.length q1) (.slice a2 c.C.length q2)) :
    Calls Tryd.prog 9 #[.agg #[.int .i64 c.e, .int .i64 c.b, .int .i64 c.k, .slice a1 c.M.length q1, .slice a2 c.C.length q2]] w fun e w' => e = .returned (.bool (validB c)) ∧ Below w.heap.size w w' := by
  have hx := heap_alloc_self w (.cells #[.int .i64 c.e, .int .i64 c.b, .int .i64 c.k, .slice a1 c.M.length q1, .slice a2 c.C.length q2] 24)
  have hb := (Below.refl w.heap.size w).alloc (Nat.le_refl _) (.cells #[.int .i64 c.e, .int .i64 c.b, .int .i64 c.k, .slice a1 c.M.length q1, .slice a2 c.C.length q2] 24)
  have hl1 : c.M.length ≤ 9223372036854775807 := by obtain ⟨_, _, _, h1, h2⟩ := h.1.form; unfold maxLen at h2; have := h.1.form; omega
  have hl2 : c.C.length ≤ 9223372036854775807 := by obtain ⟨_, _, _, h1, h2⟩ := h.2.form; unfold maxLen at h2; omega
  have hat := h.below hb
  go_enter Tryd.func9, Tryd.ntmps9
  go_upto_region 1 with fail
  generalize w.alloc (.cells #[.int .i64 c.e, .int .i64 c.b, .int .i64 c.k, .slice a1 c.M.length q1, .slice a2 c.C.length q2] 24) = w1 at *
  have x2 := cell_atD hx 2 (v := .int .i64 c.k) rfl
  have x3 := cell_atD hx 3 (v := .slice a1 c.M.length q1) rfl
  have x4 := cell_atD hx 4 (v := .slice a2 c.C.length q2) rfl
  have HB := Lib.hid hb
  have HV := Lib.hid hat
  clear hx hb hat h
  go_wp2_with fail
  go_loopw [3] (fun i wr => ∃ k t : Nat, k ≤ c.M.length ∧ i = .int .i64 k ∧ Hid (okK c.M k = true) ∧ wr = w1.drewN t) (fun i _ => c.M.length - (intOf i).toNat)
  case atStart => exact ⟨0, 0, Nat.zero_le _, rfl, Lib.hid rfl, rfl⟩
  case round =>
    obtain ⟨k, t, hk, rfl, HK, rfl⟩ := hrel
    by_cases hlt : k < c.M.length
    · obtain ⟨b, off, rfl, hb, hcell⟩ := HV.out.1.int (by omega)
      have hc := hcell k hlt
      obtain ⟨x, hx⟩ : ∃ x, x = c.M.getD k 0 := ⟨_, rfl⟩
      rw [← hx] at hc
      have hs1 : okK c.M (k + 1) = (okK c.M k && decide (0 ≤ x ∧ x ≤ 4) && !decide (x ∈ c.M.take k)) := by rw [hx]; rfl
      have HX := Lib.hid (And.intro hx hs1)
      have HCL := Lib.hid hcell
      have hkk : (k : Int) < c.M.length := by omega
      clear hx hs1 hcell
      go_wp2_with fail
      go_loopw [4] (fun i wr => ∃ m t : Nat, m ≤ k ∧ i = .int .i64 m ∧ Hid (NotIn x (c.M.take m)) ∧ wr = w1.drewN t) (fun i _ => k - (intOf i).toNat)
      case atStart => exact ⟨0, t, Nat.zero_le _, rfl, Lib.hid (by simp [NotIn]), rfl⟩
      case round =>
        obtain ⟨m, t, hm, rfl, HN, rfl⟩ := hrel
        by_cases hmk : m < k
        · have hcm := HCL.out m (by omega)
          obtain ⟨y, hy⟩ : ∃ y, y = c.M.getD m 0 := ⟨_, rfl⟩
          rw [← hy] at hcm
          have HY := Lib.hid hy
          have hml : (m : Int) < c.M.length := by omega
          clear hy
          rcases hxy : x == y
          · have hne : ¬ x = y := by simpa using hxy
            go_wp2_with fail
            go_quiet (fail)
            go_wp2_with fail
            go_roundw
            case rel =>
              refine ⟨m + 1, _, by omega, by go_num, Lib.hid (fun h => ?_), rfl⟩
              rcases (mem_take_succ c.M m (by omega) x).1 h with h | h
              · exact HN.out h
              · exact hne (h.trans HY.out.symm)
            case measure => simp [intOf]; omega
          · have heq : x = y := by simpa using hxy
            have hbad := valid_m (allOk_bad hlt (by rw [HX.out.2]; simp [in_take hmk hk (HY.out.symm.trans heq.symm)]))
            have HBAD := Lib.hid hbad
            clear hbad heq
            go_wp2_with fail
            go_quiet (fail)
            go_wp2_with fail
            go_ret
            exact ⟨ret_bool HBAD.out.symm, below_drewN' (below_drewN' HB.out _) _⟩
        · obtain rfl : m = k := by omega
          clear hmk
          have hcase : x < 0 ∨ (¬ (x < 0) ∧ 4 < x) ∨ (¬ (x < 0) ∧ ¬ (4 < x)) := by omega
          rcases hcase with h1 | ⟨h1, h2⟩ | ⟨h1, h2⟩
          · have hd : decide (x < 0) = true := by simpa using h1
            have HBAD := Lib.hid (valid_m (allOk_bad hlt (by rw [HX.out.2]; simp; omega)))
            go_wp2_with fail
            go_ret
            exact ⟨ret_bool HBAD.out.symm, below_drewN' HB.out _⟩
          · have hd : decide (x < 0) = false := by simpa using h1
            have hd2 : decide (4 < x) = true := by simpa using h2
            have HBAD := Lib.hid (valid_m (allOk_bad hlt (by rw [HX.out.2]; simp; omega)))
            go_wp2_with fail
            go_ret
            exact ⟨ret_bool HBAD.out.symm, below_drewN' HB.out _⟩
          · have hd : decide (x < 0) = false := by simpa using h1
            have hd2 : decide (4 < x) = false := by simpa using h2
            have HO := Lib.hid (show okK c.M (m + 1) = true by rw [HX.out.2, HK.out]; simp; exact ⟨by omega, HN.out⟩)
            go_wp2_with fail
            go_roundw
            case rel => exact ⟨m + 1, _, by omega, by go_num, HO, rfl⟩
            case measure => simp [intOf]; omega
    · obtain rfl : k = c.M.length := by omega
      have HM1 := Lib.hid (show allOk c.M = true from HK.out)
      clear hlt HK
      go_wp2_with fail
      go_loopw [5] (fun i wr => ∃ k t : Nat, k ≤ c.C.length ∧ i = .int .i64 k ∧ Hid (okK c.C k = true) ∧ wr = w1.drewN t) (fun i _ => c.C.length - (intOf i).toNat)
      case atStart => exact ⟨0, t, Nat.zero_le _, rfl, Lib.hid rfl, rfl⟩
      case round =>
        obtain ⟨k, t, hk, rfl, HK, rfl⟩ := hrel
        by_cases hlt : k < c.C.length
        · obtain ⟨b, off, rfl, hb, hcell⟩ := HV.out.2.int (by omega)
          have hc := hcell k hlt
          obtain ⟨x, hx⟩ : ∃ x, x = c.C.getD k 0 := ⟨_, rfl⟩
          rw [← hx] at hc
          have hs1 : okK c.C (k + 1) = (okK c.C k && decide (0 ≤ x ∧ x ≤ 4) && !decide (x ∈ c.C.take k)) := by rw [hx]; rfl
          have HX := Lib.hid (And.intro hx hs1)
          have HCL := Lib.hid hcell
          have hkk : (k : Int) < c.C.length := by omega
          clear hx hs1 hcell
          go_wp2_with fail
          go_loopw [6] (fun i wr => ∃ m t : Nat, m ≤ k ∧ i = .int .i64 m ∧ Hid (NotIn x (c.C.take m)) ∧ wr = w1.drewN t) (fun i _ => k - (intOf i).toNat)
          case atStart => exact ⟨0, t, Nat.zero_le _, rfl, Lib.hid (by simp [NotIn]), rfl⟩
          case round =>
            obtain ⟨m, t, hm, rfl, HN, rfl⟩ := hrel
            by_cases hmk : m < k
            · have hcm := HCL.out m (by omega)
              obtain ⟨y, hy⟩ : ∃ y, y = c.C.getD m 0 := ⟨_, rfl⟩
              rw [← hy] at hcm
              have HY := Lib.hid hy
              have hml : (m : Int) < c.C.length := by omega
              clear hy
              rcases hxy : x == y
              · have hne : ¬ x = y := by simpa using hxy
                go_wp2_with fail
                go_quiet (fail)
                go_wp2_with fail
                go_roundw
                case rel =>
                  refine ⟨m + 1, _, by omega, by go_num, Lib.hid (fun h => ?_), rfl⟩
                  rcases (mem_take_succ c.C m (by omega) x).1 h with h | h
                  · exact HN.out h
                  · exact hne (h.trans HY.out.symm)
                case measure => simp [intOf]; omega
              · have heq : x = y := by simpa using hxy
                have hbad := valid_c (allOk_bad hlt (by rw [HX.out.2]; simp [in_take hmk hk (HY.out.symm.trans heq.symm)]))
                have HBAD := Lib.hid hbad
                clear hbad heq
                go_wp2_with fail
                go_quiet (fail)
                go_wp2_with fail
                go_ret
                exact ⟨ret_bool HBAD.out.symm, below_drewN' (below_drewN' HB.out _) _⟩
            · obtain rfl : m = k := by omega
              clear hmk
              have hcase : x < 0 ∨ (¬ (x < 0) ∧ 4 < x) ∨ (¬ (x < 0) ∧ ¬ (4 < x)) := by omega
              rcases hcase with h1 | ⟨h1, h2⟩ | ⟨h1, h2⟩
              · have hd : decide (x < 0) = true := by simpa using h1
                have HBAD := Lib.hid (valid_c (allOk_bad hlt (by rw [HX.out.2]; simp; omega)))
                go_wp2_with fail
                go_ret
                exact ⟨ret_bool HBAD.out.symm, below_drewN' HB.out _⟩
              · have hd : decide (x < 0) = false := by simpa using h1
                have hd2 : decide (4 < x) = true := by simpa using h2
                have HBAD := Lib.hid (valid_c (allOk_bad hlt (by rw [HX.out.2]; simp; omega)))
                go_wp2_with fail
                go_ret
                exact ⟨ret_bool HBAD.out.symm, below_drewN' HB.out _⟩
              · have hd : decide (x < 0) = false := by simpa using h1
                have hd2 : decide (4 < x) = false := by simpa using h2
                have HO := Lib.hid (show okK c.C (m + 1) = true by rw [HX.out.2, HK.out]; simp; exact ⟨by omega, HN.out⟩)
                go_wp2_with fail
                go_roundw
                case rel => exact ⟨m + 1, _, by omega, by go_num, HO, rfl⟩
                case measure => simp [intOf]; omega
        · obtain rfl : k = c.C.length := by omega
          have HM2 := Lib.hid (show allOk c.C = true from HK.out)
          clear hlt HK
          rcases hq1 : decide (c.M.length ≤ 3)
          · have hn1 : ¬ (c.M.length ≤ 3) := by simpa using hq1
            have hi1 : ¬ ((c.M.length : Int) ≤ 3) := by omega
            go_wp2_with fail
            go_ret
            exact ⟨ret_bool (by unfold validB; rw [HM1.out, HM2.out, hq1]; rfl), below_drewN' HB.out _⟩
          have hn1 : c.M.length ≤ 3 := by simpa using hq1
          have hi1 : (c.M.length : Int) ≤ 3 := by omega
          rcases hq2 : decide (c.C.length ≤ 3)
          · have hn2 : ¬ (c.C.length ≤ 3) := by simpa using hq2
            have hi2 : ¬ ((c.C.length : Int) ≤ 3) := by omega
            go_wp2_with fail
            go_ret
            exact ⟨ret_bool (by unfold validB; rw [HM1.out, HM2.out, hq1, hq2]; rfl), below_drewN' HB.out _⟩
          have hn2 : c.C.length ≤ 3 := by simpa using hq2
          have hi2 : (c.C.length : Int) ≤ 3 := by omega
          have HV2 := Lib.hid (show validB c = decide (1 ≤ c.k) by unfold validB; rw [HM1.out, HM2.out, hq1, hq2]; rfl)
          clear hq1 hq2
          go_wp2_with fail
          go_ret
          exact ⟨ret_bool HV2.out.symm, below_drewN' HB.out _⟩
end Go.Proofs.YtkdmnhmlkcejfaaDoor
