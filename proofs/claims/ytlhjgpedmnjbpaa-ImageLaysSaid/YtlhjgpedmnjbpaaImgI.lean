/-
  Layer 56: its waking call; ImagePacks' law.
-/
import Derived.Test.YtlhjgpedmnjbpaaImgH
import Derived.Test.YtlhjgpedmnjbpaaFits
namespace Go.Proofs.Ytlhjgpedmnjbpaa
open Go.RowKit
set_option linter.unusedVariables false
set_option linter.unusedSimpArgs false

theorem str_list (l : List UInt8) : (⟨l.toArray⟩ : ByteArray).data.toList = l := rfl
theorem str_same (s : ByteArray) : s = ⟨s.data.toList.toArray⟩ := str_ext rfl
/-- whether two texts are the same, as the walk asks it -/
theorem same_txt {a b : List UInt8} : ((⟨a.toArray⟩ : ByteArray).toList == (⟨b.toArray⟩ : ByteArray).toList) = (a == b) := by
  rw [ByteArray.toList_eq, ByteArray.toList_eq]
theorem ten3 : (packL [] [97, 97, 97, 97, 97, 97, 97, 97, 97, 97]).length = 3 := by decide +kernel
set_option maxHeartbeats 1600000 in
set_option maxRecDepth 100000 in
theorem awake56 (w : World) : Calls Try.prog 66 #[] w fun e w' => e = .returned (.bool true) ∧ Below w.heap.size w w' := by
  have c1 := fun w => ipack ⟨#[97, 97, 97, 97, 97, 97, 97, 97, 97, 98]⟩ (by decide) w
  have c2 := fun w => ipack ⟨#[97, 97, 97, 97, 97, 97, 97, 97, 97, 97]⟩ (by decide) w
  obtain ⟨P, hP⟩ : ∃ P, packL [] (⟨#[97, 97, 97, 97, 97, 97, 97, 97, 97, 98]⟩ : ByteArray).data.toList = P := ⟨_, rfl⟩
  obtain ⟨Q, hQ⟩ : ∃ Q, packL [] (⟨#[97, 97, 97, 97, 97, 97, 97, 97, 97, 97]⟩ : ByteArray).data.toList = Q := ⟨_, rfl⟩
  have hb := unp_back (⟨#[97, 97, 97, 97, 97, 97, 97, 97, 97, 98]⟩ : ByteArray).data.toList (by decide)
  have hq3 : Q.length = 3 := by rw [← hQ]; exact ten3
  rw [hP] at hb
  simp only [hP] at c1
  simp only [hQ] at c2
  have cu := fun w => iunpack P w
  simp only [hb.1, hb.2] at cu
  clear hP hQ hb
  have cu' : ∀ w, Calls Try.prog 65 #[.string ⟨P.toArray⟩] w fun e w' => e = .returned (.tuple #[.string ⟨#[97, 97, 97, 97, 97, 97, 97, 97, 97, 98]⟩, .int .i64 0]) ∧ Below w.heap.size w w' := cu
  clear cu
  go_enter Try.func66, Try.ntmps66
  go_wp2_with fail
  refine Calls.mono (c1 w) ?_
  rintro e w1 ⟨rfl, hb1⟩
  have HB1 := Lib.hid hb1
  clear hb1
  go_wp2_with fail
  refine Calls.mono (cu' w1) ?_
  rintro e w2 ⟨rfl, hb2⟩
  have HB2 := Lib.hid (HB1.out.trans (hb2.mono HB1.out.size))
  clear hb2
  go_wp2_with fail
  refine Calls.mono (c2 w2) ?_
  rintro e w3 ⟨rfl, hb3⟩
  have HB3 := Lib.hid (HB2.out.trans (hb3.mono HB2.out.size))
  clear hb3
  go_wp2_with fail
  go_ret
  exact ⟨rfl, HB3.out⟩
set_option maxHeartbeats 1600000 in
set_option maxRecDepth 100000 in
theorem packs_law (s : ByteArray) (a : Option Addr) (len cap : Nat) (zs : List Int) (w : World) (hs : s.size ≤ maxLen) (hr : RowOf .i64 w a len cap zs) :
    Calls Try.prog 9 #[.string s, .slice a len cap] w fun e w' => e = .returned (.bool true) ∧ Below w.heap.size w w' := by
  have cb := bytes56 s.data.toList a len cap zs w (by rw [Array.length_toList]; exact hs) hr
  rw [← str_same s] at cb
  clear hr hs
  go_enter Try.func9, Try.ntmps9
  go_wp2_with fail
  refine Calls.mono cb ?_
  rintro e w1 ⟨T, rfl, hT, hb1⟩
  have HB1 := Lib.hid hb1
  clear hb1 cb
  have c1 := fun w => ipack ⟨T.toArray⟩ (by simp [ByteArray.size]; omega) w
  have c2 := fun w => rpack T (by omega) w
  have cu := fun w => iunpack (packL [] T) w
  have hb := unp_back T (by omega)
  simp only [hb.1, hb.2] at cu
  have cs : ∀ w, Calls Try.prog 64 #[.string ⟨T.toArray⟩] w fun e w' => e = .returned (.string ⟨(packL [] T).toArray⟩) ∧ Below w.heap.size w w' := c1
  clear c1 hb hT
  obtain ⟨P, hP⟩ : ∃ P, packL [] T = P := ⟨_, rfl⟩
  simp only [hP] at c2 cu cs
  clear hP
  go_wp2_with fail
  refine Calls.mono (cs w1) ?_
  rintro e w2 ⟨rfl, hb2⟩
  have HB2 := Lib.hid (HB1.out.trans (hb2.mono HB1.out.size))
  clear hb2
  go_wp2_with fail
  refine Calls.mono (cu w2) ?_
  rintro e w3 ⟨rfl, hb3⟩
  have HB3 := Lib.hid (HB2.out.trans (hb3.mono HB2.out.size))
  clear hb3
  go_wp2_with fail
  refine Calls.mono (awake56 w3) ?_
  rintro e w4 ⟨rfl, hb4⟩
  have HB4 := Lib.hid (HB3.out.trans (hb4.mono HB3.out.size))
  clear hb4
  go_wp2_with fail
  refine Calls.mono (c2 w4) ?_
  rintro e w5 ⟨rfl, hb5⟩
  have HB5 := Lib.hid (HB4.out.trans (hb5.mono HB4.out.size))
  clear hb5
  go_wp2_with fail
  go_ret
  exact ⟨rfl, HB5.out⟩
set_option maxHeartbeats 3200000 in
set_option maxRecDepth 100000 in
theorem unpacks_law (s t : ByteArray) (w : World) (hs : s.size ≤ maxLen) (ht : t.size ≤ maxLen) :
    Calls Try.prog 10 #[.string s, .string t] w fun e w' => e = .returned (.bool true) ∧ Below w.heap.size w w' := by
  unfold maxLen at hs ht
  -- the first bytes
  have hsx : s.extract 0 (min s.size 30) = ⟨(s.data.toList.take (min s.size 30)).toArray⟩ := str_ext (by rw [Lib.extract_data]; simp)
  have htx : t.extract 0 (min t.size 40) = ⟨(t.data.toList.take (min t.size 40)).toArray⟩ := str_ext (by rw [Lib.extract_data]; simp)
  have hsm : min (s.size : Int) 30 = ((min s.size 30 : Nat) : Int) := by omega
  have htm : min (t.size : Int) 40 = ((min t.size 40 : Nat) : Int) := by omega
  obtain ⟨m, hm⟩ : ∃ m, min s.size 30 = m := ⟨_, rfl⟩
  obtain ⟨n, hn⟩ : ∃ n, min t.size 40 = n := ⟨_, rfl⟩
  rw [hm] at hsx hsm
  rw [hn] at htx htm
  have hm1 : (m : Int) ≤ (s.size : Int) := by omega
  have hn1 : (n : Int) ≤ (t.size : Int) := by omega
  have hm2 : m ≤ s.size := by omega
  have hn2 : n ≤ t.size := by omega
  obtain ⟨A, hA⟩ : ∃ A, s.data.toList.take m = A := ⟨_, rfl⟩
  obtain ⟨T, hT⟩ : ∃ T, t.data.toList.take n = T := ⟨_, rfl⟩
  have hTl : T.length ≤ 40 := by rw [← hT, List.length_take]; omega
  rw [hA] at hsx
  rw [hT] at htx
  clear hm hn hA hT
  -- what Unpack tells of them
  have hw := unp_well A.length ⟨A, 0⟩ [] (Or.inl rfl) (by simp)
  have hE : Er (unpE A) := hw.1
  have hV : (unpV A).length ≤ 65536 := by
    unfold unpV
    split
    · simp
    · exact hw.2
  have hV0 : unpE A ≠ 0 → unpV A = [] := by
    intro h
    unfold unpV
    exact if_pos h
  have cu := fun w => iunpack A w
  obtain ⟨E, hEe⟩ : ∃ E, unpE A = E := ⟨_, rfl⟩
  obtain ⟨V, hVe⟩ : ∃ V, unpV A = V := ⟨_, rfl⟩
  rw [hEe] at hE hV0
  rw [hVe] at hV hV0
  simp only [hEe, hVe] at cu
  clear hw hEe hVe
  have cp : ∀ w, Calls Try.prog 64 #[.string ⟨T.toArray⟩] w fun e w' => e = .returned (.string ⟨(packL [] T).toArray⟩) ∧ Below w.heap.size w w' := fun w => ipack ⟨T.toArray⟩ (by simp [ByteArray.size]; omega) w
  have hpl := packL_len T.length [] T (Nat.le_refl _) (by simp; omega)
  have f1 := (unp_behind T [1, 1, 97] (by omega)).trans (bad1 T)
  have f2 := (unp_behind T [1, 10, 97, 98, 99] (by omega)).trans (bad2 T (by omega))
  have f3 := (unp_behind T [0, 97] (by omega)).trans (bad3 T)
  have f4 := (unp_behind T [3, 2, 0, 3, 97] (by omega)).trans (bad4 T (by omega))
  obtain ⟨P, hP⟩ : ∃ P, packL [] T = P := ⟨_, rfl⟩
  simp only [hP] at cp hpl f1 f2 f3 f4
  have hPl : P.length ≤ 1000 := by simp at hpl; omega
  have u1 := fun w => iunpack (P ++ [1, 1, 97]) w
  have u2 := fun w => iunpack (P ++ [1, 10, 97, 98, 99]) w
  have u3 := fun w => iunpack (P ++ [0, 97]) w
  have u4 := fun w => iunpack (P ++ [3, 2, 0, 3, 97]) w
  simp only [f1] at u1
  simp only [f2] at u2
  simp only [f3] at u3
  simp only [f4] at u4
  have s1 := str_append P [1, 1, 97]
  have s2 := str_append P [1, 10, 97, 98, 99]
  have s3 := str_append P [0, 97]
  have s4 := str_append P [3, 2, 0, 3, 97]
  obtain ⟨V1, hV1⟩ : ∃ V, unpV (P ++ [1, 1, 97]) = V := ⟨_, rfl⟩
  obtain ⟨V2, hV2⟩ : ∃ V, unpV (P ++ [1, 10, 97, 98, 99]) = V := ⟨_, rfl⟩
  obtain ⟨V3, hV3⟩ : ∃ V, unpV (P ++ [0, 97]) = V := ⟨_, rfl⟩
  obtain ⟨V4, hV4⟩ : ∃ V, unpV (P ++ [3, 2, 0, 3, 97]) = V := ⟨_, rfl⟩
  simp only [hV1] at u1
  simp only [hV2] at u2
  simp only [hV3] at u3
  simp only [hV4] at u4
  clear f1 f2 f3 f4 hP hpl hV1 hV2 hV3 hV4 hTl
  have hVi : (V.length : Int) ≤ 65536 := by omega
  have hPn : P.length + 5 ≤ 9223372036854775807 := by omega
  rcases hE with rfl | rfl | rfl
  · clear hV0
    go_enter Try.func10, Try.ntmps10
    go_wp2_with fail
    refine Calls.mono (cu w) ?_
    rintro e w1 ⟨rfl, hb1⟩
    have HB1 := Lib.hid hb1
    clear hb1 cu
    go_wp2_with fail
    refine Calls.mono (cp w1) ?_
    rintro e w2 ⟨rfl, hb2⟩
    have HB2 := Lib.hid (HB1.out.trans (hb2.mono HB1.out.size))
    clear hb2
    go_wp2_with fail
    refine Calls.mono (u1 w2) ?_
    rintro e w3 ⟨rfl, hb3⟩
    have HB3 := Lib.hid (HB2.out.trans (hb3.mono HB2.out.size))
    clear hb3
    go_wp2_with fail
    refine Calls.mono (u2 w3) ?_
    rintro e w4 ⟨rfl, hb4⟩
    have HB4 := Lib.hid (HB3.out.trans (hb4.mono HB3.out.size))
    clear hb4
    go_wp2_with fail
    refine Calls.mono (u3 w4) ?_
    rintro e w5 ⟨rfl, hb5⟩
    have HB5 := Lib.hid (HB4.out.trans (hb5.mono HB4.out.size))
    clear hb5
    go_wp2_with fail
    refine Calls.mono (u4 w5) ?_
    rintro e w6 ⟨rfl, hb6⟩
    have HB6 := Lib.hid (HB5.out.trans (hb6.mono HB5.out.size))
    clear hb6
    go_wp2_with fail
    refine Calls.mono (awake56 w6) ?_
    rintro e w7 ⟨rfl, hb7⟩
    have HB7 := Lib.hid (HB6.out.trans (hb7.mono HB6.out.size))
    clear hb7
    go_wp2_with fail
    go_ret
    exact ⟨rfl, HB7.out⟩
  · have hV1 := hV0 (by decide)
    subst hV1
    clear hV0
    go_enter Try.func10, Try.ntmps10
    go_wp2_with fail
    refine Calls.mono (cu w) ?_
    rintro e w1 ⟨rfl, hb1⟩
    have HB1 := Lib.hid hb1
    clear hb1 cu
    go_wp2_with fail
    refine Calls.mono (cp w1) ?_
    rintro e w2 ⟨rfl, hb2⟩
    have HB2 := Lib.hid (HB1.out.trans (hb2.mono HB1.out.size))
    clear hb2
    go_wp2_with fail
    refine Calls.mono (u1 w2) ?_
    rintro e w3 ⟨rfl, hb3⟩
    have HB3 := Lib.hid (HB2.out.trans (hb3.mono HB2.out.size))
    clear hb3
    go_wp2_with fail
    refine Calls.mono (u2 w3) ?_
    rintro e w4 ⟨rfl, hb4⟩
    have HB4 := Lib.hid (HB3.out.trans (hb4.mono HB3.out.size))
    clear hb4
    go_wp2_with fail
    refine Calls.mono (u3 w4) ?_
    rintro e w5 ⟨rfl, hb5⟩
    have HB5 := Lib.hid (HB4.out.trans (hb5.mono HB4.out.size))
    clear hb5
    go_wp2_with fail
    refine Calls.mono (u4 w5) ?_
    rintro e w6 ⟨rfl, hb6⟩
    have HB6 := Lib.hid (HB5.out.trans (hb6.mono HB5.out.size))
    clear hb6
    go_wp2_with fail
    refine Calls.mono (awake56 w6) ?_
    rintro e w7 ⟨rfl, hb7⟩
    have HB7 := Lib.hid (HB6.out.trans (hb7.mono HB6.out.size))
    clear hb7
    go_wp2_with fail
    go_ret
    exact ⟨rfl, HB7.out⟩
  · have hV1 := hV0 (by decide)
    subst hV1
    clear hV0
    go_enter Try.func10, Try.ntmps10
    go_wp2_with fail
    refine Calls.mono (cu w) ?_
    rintro e w1 ⟨rfl, hb1⟩
    have HB1 := Lib.hid hb1
    clear hb1 cu
    go_wp2_with fail
    refine Calls.mono (cp w1) ?_
    rintro e w2 ⟨rfl, hb2⟩
    have HB2 := Lib.hid (HB1.out.trans (hb2.mono HB1.out.size))
    clear hb2
    go_wp2_with fail
    refine Calls.mono (u1 w2) ?_
    rintro e w3 ⟨rfl, hb3⟩
    have HB3 := Lib.hid (HB2.out.trans (hb3.mono HB2.out.size))
    clear hb3
    go_wp2_with fail
    refine Calls.mono (u2 w3) ?_
    rintro e w4 ⟨rfl, hb4⟩
    have HB4 := Lib.hid (HB3.out.trans (hb4.mono HB3.out.size))
    clear hb4
    go_wp2_with fail
    refine Calls.mono (u3 w4) ?_
    rintro e w5 ⟨rfl, hb5⟩
    have HB5 := Lib.hid (HB4.out.trans (hb5.mono HB4.out.size))
    clear hb5
    go_wp2_with fail
    refine Calls.mono (u4 w5) ?_
    rintro e w6 ⟨rfl, hb6⟩
    have HB6 := Lib.hid (HB5.out.trans (hb6.mono HB5.out.size))
    clear hb6
    go_wp2_with fail
    refine Calls.mono (awake56 w6) ?_
    rintro e w7 ⟨rfl, hb7⟩
    have HB7 := Lib.hid (HB6.out.trans (hb7.mono HB6.out.size))
    clear hb7
    go_wp2_with fail
    go_ret
    exact ⟨rfl, HB7.out⟩
end Go.Proofs.Ytlhjgpedmnjbpaa
