/-
  scrub.Used; ScrubUsed's walk.
-/
import Derived.Test.YtnjklhmnkjejfaaScrubE
namespace Go.Proofs.Ytnjklhmnkjejfaa
open Go.RowKit
set_option linter.unusedVariables false
set_option linter.unusedSimpArgs false

/-- how many bytes of the blocks below one there are -/
def usedN (B : Int) : List HI → Nat
  | [] => 0
  | h :: t => (if h.b < B then h.d.size else 0) + usedN B t
theorem used_snoc (B : Int) (l : List HI) (x : HI) : usedN B (l ++ [x]) = usedN B l + (if x.b < B then x.d.size else 0) := by
  induction l with
  | nil => simp [usedN]
  | cons h t ih => simp only [List.cons_append, usedN, ih]; omega
theorem used_next {B : Int} {l : List HI} {j : Nat} {x : HI} (h : l[j]? = some x) : usedN B (l.take (j + 1)) = usedN B (l.take j) + (if x.b < B then x.d.size else 0) := by rw [take_next h, used_snoc]
theorem used_le {B : Int} {l : List HI} (h : ∀ x ∈ l, x.d.size ≤ 40) : usedN B l ≤ 40 * l.length := by
  induction l with
  | nil => simp [usedN]
  | cons x t ih =>
    have h1 := h x (by simp)
    have h2 := ih (fun y hy => h y (by simp [hy]))
    simp only [usedN, List.length_cons]
    split <;> omega
set_option maxHeartbeats 1600000 in
set_option maxRecDepth 100000 in
theorem sused (l : List HI) (hok : ∀ x ∈ l, Ok x) (B : Int) (w : World) (v : Value) (hv : SR w v 3 l.length (hCells l)) :
    Calls Try.prog 24 #[v, .int .i64 B] w fun e w' => e = .returned (.int .i64 (usedN B (putAll [] l))) ∧ Below w.heap.size w w' := by
  have ci := iof l hok w v hv
  have HS := Lib.hid (srt_putAll Srt.nil hok)
  obtain ⟨a, cap, rfl, hlc, hcm⟩ := hv.form
  obtain ⟨L, hL⟩ : ∃ L, putAll [] l = L := ⟨_, rfl⟩
  rw [hL] at ci HS ⊢
  have hll := HS.out.len
  clear hv hok hL
  go_enter Try.func24, Try.ntmps24
  go_wp2_with fail
  refine Calls.mono ci ?_
  rintro e w1 ⟨rfl, sv, hs1, hb1⟩
  have ca := sall _ _ _ _ _ hs1
  have HB1 := Lib.hid hb1
  clear hs1 hb1 ci
  go_wp2_with fail
  refine Calls.mono ca ?_
  rintro e w2 ⟨v2, rfl, ho2, hb2⟩
  obtain ⟨a2, cap2, rfl, hl2, hm2⟩ := (SR.owns ho2).form
  unfold maxLen at hm2
  have HR2 := Lib.hid (SR.owns ho2)
  have HB2 := Lib.hid (HB1.out.trans (hb2.mono HB1.out.size))
  clear ho2 hb2 ca
  go_wp2_with fail
  go_loopw [5, 12] (fun n i wr => ∃ j : Nat, j ≤ L.length ∧ i = .int .i64 j ∧ n = .int .i64 (usedN B (L.take j)) ∧ Hid (Below w2.heap.size w2 wr)) (fun _ i _ => L.length - (intOf i).toNat)
  case atStart => exact ⟨0, Nat.zero_le _, rfl, rfl, Lib.hid (Below.refl _ _)⟩
  case round =>
    obtain ⟨j, hj, rfl, rfl, HL⟩ := hrel
    by_cases hlt : j < L.length
    · obtain ⟨x, hx⟩ : ∃ x, L[j]? = some x := ⟨_, List.getElem?_eq_getElem hlt⟩
      obtain ⟨b, off, rfl, -, c0, c1, c2⟩ := sr_held (HR2.out.below HL.out) j x hx
      have hb1 := (Below.refl wr.heap.size wr).alloc (Nat.le_refl _) (.cells #[.int .i64 x.b, .int .u64 x.v, .string x.d] 45)
      have hy := heap_alloc_self wr (.cells #[.int .i64 x.b, .int .u64 x.v, .string x.d] 45)
      have hg := HS.out.all x (List.mem_of_getElem? hx)
      have hxd := hg.2.2.2
      have hul := used_le (B := B) (l := L.take j) (fun y hy => (HS.out.all y (List.mem_of_mem_take hy)).2.2.2)
      have hlj : (L.take j).length ≤ j := by rw [List.length_take]; omega
      have HN := Lib.hid (used_next (B := B) hx)
      obtain ⟨U, hU⟩ : ∃ U, usedN B (L.take j) = U := ⟨_, rfl⟩
      rw [hU] at hul HN
      try rw [hU]
      have hU2 : U ≤ 3000 := by omega
      have HBN := Lib.hid (HL.out.trans (hb1.mono HL.out.size))
      clear hx hb1 hg hul hlj hU
      go_upto_region 5 with fail
      generalize wr.alloc (.cells #[.int .i64 x.b, .int .u64 x.v, .string x.d] 45) = w3 at *
      obtain ⟨d0, d1, d2⟩ := held_at hy
      clear c0 c1 c2 hy
      by_cases hb : x.b < B
      · have hnx : usedN B (L.take (j + 1)) = U + x.d.size := by rw [HN.out, if_pos hb]
        have HNX := Lib.hid hnx
        clear hnx
        go_wp2_with fail
        go_roundw
        case rel => exact ⟨j + 1, by omega, by go_num, by rw [HNX.out]; go_num, HBN⟩
        case measure => simp [intOf]; omega
      · have hnx : usedN B (L.take (j + 1)) = U := by rw [HN.out, if_neg hb]; rfl
        have HNX := Lib.hid hnx
        clear hnx
        go_wp2_with fail
        go_roundw
        case rel => exact ⟨j + 1, by omega, by go_num, by rw [HNX.out], HBN⟩
        case measure => simp [intOf]; omega
    · obtain rfl : j = L.length := by omega
      rw [List.take_length]
      have HF := Lib.hid (HB2.out.trans (HL.out.mono HB2.out.size))
      go_wp2_with fail
      go_ret
      exact ⟨rfl, HF.out⟩
theorem mask127 (x : Int) : bits .and .i64 x 127 = x % 128 := mask_mod x 7 127 (by decide) (by decide)
set_option maxHeartbeats 3200000 in
set_option maxRecDepth 400000 in
theorem scrubused_law (a0 : Option Addr) (len0 cap0 : Nat) (bl : Int) (w : World) (hf0 : Fits w (.slice heldSh) [.slice a0 len0 cap0]) (hbl : (Lit.int .i64 bl).wf = true) :
    Calls Try.prog 5 #[.slice a0 len0 cap0, .int .i64 bl] w fun e w' => e = .returned (.bool true) ∧ Below w.heap.size w w' := by
  obtain ⟨rs, rfl, hr, hro⟩ := fits_held hf0
  have c1 := near09 rs hro w _ hr
  have hxo := nearL_ok hro
  have HS := Lib.hid (srt_putAll Srt.nil hxo)
  have hm := allM_putAll (l := []) (xs := nearL rs) (by intro x hx; cases hx)
  obtain ⟨X, hX⟩ : ∃ X, nearL rs = X := ⟨_, rfl⟩
  rw [hX] at c1 hxo HS hm
  have HXO := Lib.hid hxo
  obtain ⟨L, hL⟩ : ∃ L, putAll [] X = L := ⟨_, rfl⟩
  rw [hL] at HS hm
  have HM := Lib.hid hm
  have HL := Lib.hid hL
  have HOF := Lib.hid (of_self HS.out hm)
  have hll := HS.out.len
  obtain ⟨B, hB⟩ : ∃ B, bits .and .i64 bl 127 = B := ⟨_, rfl⟩
  have HU0 : ∀ w', Calls Try.prog 24 #[.slice none 0 0, .int .i64 B] w' fun e w'' => e = .returned (.int .i64 0) ∧ Below w'.heap.size w' w'' := fun w' => sused [] (by simp) B w' _ (SR.nil_ _ _)
  clear hr hro hxo hX hL hm hf0 hbl
  go_enter Try.func5, Try.ntmps5
  go_wp2_with fail
  refine Calls.mono c1 ?_
  rintro e w1 ⟨v1, rfl, ho1, hb1⟩
  have c2 := rof X HXO.out w1 v1 (SR.owns ho1)
  rw [HL.out] at c2
  have HB1 := Lib.hid hb1
  clear ho1 hb1 c1
  go_wp2_with fail
  refine Calls.mono c2 ?_
  rintro e w2 ⟨v2, rfl, hm2, -, hb2⟩
  obtain ⟨a2, cap2, rfl, hl2, hm2'⟩ := hm2.form
  unfold maxLen at hm2'
  have R2 := Lib.hid hm2
  have HB2 := Lib.hid (HB1.out.trans (hb2.mono HB1.out.size))
  clear hm2 hb2 c2
  go_wp2_with fail
  go_loopw [6, 8] (fun n i wr => ∃ j : Nat, j ≤ L.length ∧ i = .int .i64 j ∧ n = .int .i64 (usedN B (L.take j)) ∧ wr = w2) (fun _ i _ => L.length - (intOf i).toNat)
  case atStart => exact ⟨0, Nat.zero_le _, rfl, rfl, rfl⟩
  case round =>
    obtain ⟨j, hj, rfl, rfl, rfl⟩ := hrel
    by_cases hlt : j < L.length
    · obtain ⟨x, hx⟩ : ∃ x, L[j]? = some x := ⟨_, List.getElem?_eq_getElem hlt⟩
      obtain ⟨b, off, rfl, -, c0, c1, c2⟩ := sr_held R2.out j x hx
      have hxm := List.mem_of_getElem? hx
      have htwo := mB_two (HM.out x hxm)
      have hul := used_le (B := B) (l := L.take j) (fun y hy => (HS.out.all y (List.mem_of_mem_take hy)).2.2.2)
      have hlj : (L.take j).length ≤ j := by rw [List.length_take]; omega
      have HN := Lib.hid (used_next (B := B) hx)
      obtain ⟨U, hU⟩ : ∃ U, usedN B (L.take j) = U := ⟨_, rfl⟩
      rw [hU] at hul HN
      try rw [hU]
      have hU2 : U ≤ 3000 := by omega
      obtain ⟨y, hy⟩ : ∃ y : HI, y = x := ⟨x, rfl⟩
      obtain ⟨D, hD⟩ : ∃ D, x.d = D := ⟨_, rfl⟩
      rw [hD] at htwo c2 HN
      clear hx hxm hul hlj hU hD
      by_cases hb : x.b < B
      · rcases htwo with rfl | h32
        · have hnx : usedN B (L.take (j + 1)) = U := by rw [HN.out, if_pos hb]; rfl
          have HNX := Lib.hid hnx
          clear hnx
          go_wp2_with fail
          go_roundw
          case rel => exact ⟨j + 1, by omega, by go_num, by rw [HNX.out], by first | rfl | trivial | exact ⟨_, rfl⟩⟩
          case measure => simp [intOf]; omega
        · have hnx : usedN B (L.take (j + 1)) = U + 32 := by rw [HN.out, if_pos hb, h32]
          have HNX := Lib.hid hnx
          have hne : D ≠ ⟨#[]⟩ := fun e => by rw [e] at h32; exact absurd h32 (by decide)
          have h1 := ba_empty hne
          have h2 : (D.toList == (⟨#[]⟩ : ByteArray).toList) = false := ba_ne hne
          have h3 : (D.toList == []) = false := by rw [beq_eq_false_iff_ne]; exact h1
          have h4 : D.toList.isEmpty = false := by rw [List.isEmpty_eq_false_iff]; exact h1
          have h5 : (D.toList != []) = true := by simp [bne, h3]
          clear hnx h32 hne
          go_wp2_with fail
          go_roundw
          case rel => exact ⟨j + 1, by omega, by go_num, by rw [HNX.out]; go_num, by first | rfl | trivial⟩
          case measure => simp [intOf]; omega
      · have hnx : usedN B (L.take (j + 1)) = U := by rw [HN.out, if_neg hb]; rfl
        have HNX := Lib.hid hnx
        clear hnx htwo
        go_wp2_with fail
        go_roundw
        case rel => exact ⟨j + 1, by omega, by go_num, by rw [HNX.out], by first | rfl | trivial | exact ⟨_, rfl⟩⟩
        case measure => simp [intOf]; omega
    · obtain rfl : j = L.length := by omega
      rw [List.take_length]
      obtain ⟨U, hU⟩ : ∃ U, usedN B L = U := ⟨_, rfl⟩
      have cu := fun w' hb => sused L HS.out.ok B w' _ (R2.out.below (w' := w') hb)
      rw [HOF.out, hU] at cu
      try rw [hU]
      clear hU
      go_wp2_with fail
      refine Calls.mono (awake43 _) ?_
      rintro e w3 ⟨rfl, hb3⟩
      have HB3 := Lib.hid (HB2.out.trans (hb3.mono HB2.out.size))
      have c3 := cu w3 hb3
      clear hb3 cu
      go_wp2_with fail
      refine Calls.mono c3 ?_
      rintro e w4 ⟨rfl, hb4⟩
      have HB4 := Lib.hid (HB3.out.trans (hb4.mono HB3.out.size))
      clear hb4 c3
      go_wp2_with fail
      refine Calls.mono (HU0 _) ?_
      rintro e w5 ⟨rfl, hb5⟩
      have HB5 := Lib.hid (HB4.out.trans (hb5.mono HB4.out.size))
      clear hb5
      go_wp2_with fail
      go_ret
      exact ⟨rfl, HB5.out⟩
end Go.Proofs.Ytnjklhmnkjejfaa
