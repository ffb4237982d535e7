/-
  Several texts, laid together.
-/
import Derived.Test.YtodjlaapmbnahaaMh6
/-
  FlatBent: one of its four ways. Written by genbent.py.
-/

namespace Go.Proofs.Ytodjlaapmbnahaa
open Go.RowKit
set_option linter.unusedVariables false
set_option linter.unusedSimpArgs false

set_option maxHeartbeats 6400000 in
set_option maxRecDepth 100000 in
theorem flatbent_way0 (a : Option Addr) (len cap : Nat) (k : Int) (s : ByteArray) (w : World) (hf : Fits w (.slice (.two (.int .i64) (.two (.two (.int .i64) (.two (.int .i64) (.two (.int .i64) (.two .str (.two .bool .unit))))) (.two .bool .unit)))) [.slice a len cap]) (hk : (Lit.int .i64 k).wf = true) (hs : s.size ≤ maxLen) (hm : k % 4 = 0) :
    Calls Try.prog 4 #[.slice a len cap, .int .i64 k, .string s] w fun e w' => e = .returned (.bool true) ∧ Below w.heap.size w w' := by
  obtain ⟨i0, hi, hz0, hz1, hz2⟩ := info_parts einfoH
  have hmk : bits .and .i64 k 3 = k % 4 := mask_mod k 2 3 (by decide) (by decide)
  rw [hm] at hmk
  have c := phistory a len cap 1 w hf (by decide)
  unfold HistP at c
  clear hm hf hk
  go_enter Try.func4, Try.ntmps4
  go_wp2_with fail
  refine Calls.mono c ?_
  rintro e w1 ⟨hv, E, V, ops, rfl, hA, hMk, hEl, hok, helts, hb1⟩
  have HH := Lib.hid (And.intro (show Hist E V ops from ⟨hA, hMk, hEl, hok⟩) (And.intro helts hb1))
  clear c hA hMk hEl hok helts hb1
  go_wp2_with fail
  refine Calls.mono (pfresh s 1 _ hs (by decide)) ?_
  rintro e w2 ⟨X, rfl, hX, hb2⟩
  have H2 := Lib.hid (And.intro hX hb2)
  clear hX hb2
  go_wp2_with fail
  refine Calls.mono (pfresh s 2 _ hs (by decide)) ?_
  rintro e w3 ⟨Z, rfl, hZ, hb3⟩
  have HX := Lib.hid (And.intro H2.out.1 hZ)
  have HB3 := Lib.hid (H2.out.2.trans (hb3.mono H2.out.2.size))
  clear hZ hb3 H2
  obtain ⟨s1, s2, s3, s4, s5, s6, sb⟩ := six_newB w3 (.cells #[.bool false, .int .i64 1000, .int .i64 5, .int .i64 0, .int .i64 0, .int .i64 32, .string ⟨#[]⟩, .bool false, .int .i64 0, .string ⟨#[]⟩] 36) (.cells #[.bool true, .int .i64 1000, .int .i64 5, .int .i64 0, .int .i64 0, .int .i64 0, .string ⟨#[]⟩, .bool false, .int .i64 0, .string X] 36) (.cells #[.bool false, .int .i64 1001, .int .i64 5, .int .i64 1, .int .i64 0, .int .i64 0, .string X, .bool false, .int .i64 0, .string ⟨#[]⟩] 36) (.cells #[.bool false, .int .i64 1002, .int .i64 5, .int .i64 1, .int .i64 0, .int .i64 0, .string Z, .bool false, .int .i64 0, .string ⟨#[]⟩] 36) (.cells #[.bool true, .int .i64 1001, .int .i64 5, .int .i64 0, .int .i64 0, .int .i64 0, .string ⟨#[]⟩, .bool false, .int .i64 0, .string ⟨#[]⟩] 36) (.cells #[.bool true, .int .i64 1002, .int .i64 5, .int .i64 0, .int .i64 0, .int .i64 0, .string ⟨#[]⟩, .bool false, .int .i64 0, .string ⟨#[]⟩] 36)
  obtain ⟨B, hB⟩ : ∃ B, w3.heap.size = B := ⟨_, rfl⟩
  rw [hB] at s1 s2 s3 s4 s5 s6
  have HS := Lib.hid (And.intro s1 (And.intro s2 (And.intro s3 (And.intro s4 (And.intro s5 (And.intro s6 (HB3.out.trans (sb.mono HB3.out.size))))))))
  clear s1 s2 s3 s4 s5 s6 sb
  go_upto_region 11 with fail
  try simp only [hB]
  generalize (((((w3.alloc (.cells #[.bool false, .int .i64 1000, .int .i64 5, .int .i64 0, .int .i64 0, .int .i64 32, .string ⟨#[]⟩, .bool false, .int .i64 0, .string ⟨#[]⟩] 36)).alloc (.cells #[.bool true, .int .i64 1000, .int .i64 5, .int .i64 0, .int .i64 0, .int .i64 0, .string ⟨#[]⟩, .bool false, .int .i64 0, .string X] 36)).alloc (.cells #[.bool false, .int .i64 1001, .int .i64 5, .int .i64 1, .int .i64 0, .int .i64 0, .string X, .bool false, .int .i64 0, .string ⟨#[]⟩] 36)).alloc (.cells #[.bool false, .int .i64 1002, .int .i64 5, .int .i64 1, .int .i64 0, .int .i64 0, .string Z, .bool false, .int .i64 0, .string ⟨#[]⟩] 36)).alloc (.cells #[.bool true, .int .i64 1001, .int .i64 5, .int .i64 0, .int .i64 0, .int .i64 0, .string ⟨#[]⟩, .bool false, .int .i64 0, .string ⟨#[]⟩] 36)).alloc (.cells #[.bool true, .int .i64 1002, .int .i64 5, .int .i64 0, .int .i64 0, .int .i64 0, .string ⟨#[]⟩, .bool false, .int .i64 0, .string ⟨#[]⟩] 36) = w9 at *
  obtain ⟨N, hN⟩ : ∃ N, w9.heap.size = N := ⟨_, rfl⟩
  have ho9 : (w9.alloc (.cells #[] 36)).ownsRow N 36 10 (.slice (some ⟨w9.heap.size, 0, none⟩) 0 0) 0 [] := by
    have h := World.ownsRow_lit (base := w9.heap.size) (e := 36) (size := 10) w9 #[] 0 (Nat.le_refl _) (by decide) rfl
    exact ⟨h.1, h.2.imp id (fun ⟨g, cap, cur, a, b, c⟩ => ⟨g, cap, cur, a, Nat.le_trans (Nat.le_of_eq hN.symm) b, c⟩)⟩
  have hsr9 : SR (w9.alloc (.cells #[] 36)) hv 10 E.length (evCH E) := elts_to_sr (c := Ev.c) (sz := 10) (fun x => rfl) ((HH.out.2.1.below HS.out.2.2.2.2.2.2).below ((Below.refl _ _).alloc (Nat.le_refl _) _))
  have H9 := Lib.hid (And.intro ho9 (And.intro hsr9 hN))
  clear ho9 hsr9 hN
  go_wp2_with (at_builtin; refine wp_app Try.underlying23 hi hz0 hz1 hz2 rfl (by decide) rfl (.tmp 47) (.tmp 48) rfl N (.slice (some ⟨w9.heap.size, 0, none⟩) 0 0) 0 [] rfl ?c5 hv E.length (evCH E) rfl H9.out.2.1 ?c1 ?c2 ?c3 ?c4 ?_)
  case c5 => exact H9.out.1
  case c1 => exact evC_oneH _
  case c2 => have := HH.out.1.n; unfold maxLen; omega
  case c3 => have := HH.out.1.n; omega
  case c4 => have := H9.out.2.2; simp; omega
  intro v1 w10 hown1 hgr1
  try rw [Nat.zero_add] at hown1
  try rw [List.nil_append] at hown1
  have hk10 : ∀ g, g < N → w10.heap[g]? = w9.heap[g]? := fun g hg => by
    rw [hgr1.block g (by have := H9.out.2.2; simp; omega) (fun e => by have e1 : g = w9.heap.size := Option.some.inj e; have := H9.out.2.2; omega)]
    exact Below.heap_alloc w9 _ g (by have := H9.out.2.2; omega)
  have hlt := lt_heap HS.out.2.2.2.2.2.1
  have hBN : B + 1 + 1 + 1 + 1 + 1 < N := by rw [← H9.out.2.2]; exact hlt
  have R1 : Hid (w10.rangeAt B 0 [.bool false, .int .i64 1000, .int .i64 5, .int .i64 0, .int .i64 0, .int .i64 32, .string ⟨#[]⟩, .bool false, .int .i64 0, .string ⟨#[]⟩]) := Lib.hid (rangeB ((hk10 _ (by omega)).trans HS.out.1))
  have R2 : Hid (w10.rangeAt (B + 1) 0 [.bool true, .int .i64 1000, .int .i64 5, .int .i64 0, .int .i64 0, .int .i64 0, .string ⟨#[]⟩, .bool false, .int .i64 0, .string X]) := Lib.hid (rangeB ((hk10 _ (by omega)).trans HS.out.2.1))
  have R3 : Hid (w10.rangeAt (B + 1 + 1) 0 [.bool false, .int .i64 1001, .int .i64 5, .int .i64 1, .int .i64 0, .int .i64 0, .string X, .bool false, .int .i64 0, .string ⟨#[]⟩]) := Lib.hid (rangeB ((hk10 _ (by omega)).trans HS.out.2.2.1))
  have R4 : Hid (w10.rangeAt (B + 1 + 1 + 1) 0 [.bool false, .int .i64 1002, .int .i64 5, .int .i64 1, .int .i64 0, .int .i64 0, .string Z, .bool false, .int .i64 0, .string ⟨#[]⟩]) := Lib.hid (rangeB ((hk10 _ (by omega)).trans HS.out.2.2.2.1))
  have R5 : Hid (w10.rangeAt (B + 1 + 1 + 1 + 1) 0 [.bool true, .int .i64 1001, .int .i64 5, .int .i64 0, .int .i64 0, .int .i64 0, .string ⟨#[]⟩, .bool false, .int .i64 0, .string ⟨#[]⟩]) := Lib.hid (rangeB ((hk10 _ (by omega)).trans HS.out.2.2.2.2.1))
  have R6 : Hid (w10.rangeAt (B + 1 + 1 + 1 + 1 + 1) 0 [.bool true, .int .i64 1002, .int .i64 5, .int .i64 0, .int .i64 0, .int .i64 0, .string ⟨#[]⟩, .bool false, .int .i64 0, .string ⟨#[]⟩]) := Lib.hid (rangeB ((hk10 _ (by omega)).trans HS.out.2.2.2.2.2.1))
  have hb10 : Below w1.heap.size w1 w10 := by
    have h0 : Below w1.heap.size w1 (w9.alloc (.cells #[] 36)) := HS.out.2.2.2.2.2.2.alloc HS.out.2.2.2.2.2.2.size _
    exact below_app h0 hgr1 H9.out.1 (by rw [← H9.out.2.2]; exact HS.out.2.2.2.2.2.2.size) h0.size
  have H10 := Lib.hid (And.intro hown1 (And.intro hb10 (by have h1 := hgr1.size; have h2 : (w9.alloc (.cells #[] 36)).heap.size = w9.heap.size + 1 := (by simp); have := H9.out.2.2; omega : N ≤ w10.heap.size)))
  clear hown1 hgr1 hk10 hlt hBN hb10 hB
  go_wp2_with (first | (with_reducible (show wpList _ _ _ ((⟨some 64, .load 36 (.tmp 11), _, _, _, _⟩ : Oper) :: _) _ _); go_must (refine wpList_load_mid rfl 36 (.tmp 11) rfl B 0 rfl [.bool false, .int .i64 1000, .int .i64 5, .int .i64 0, .int .i64 0, .int .i64 32, .string ⟨#[]⟩, .bool false, .int .i64 0, .string ⟨#[]⟩] _ R1.out Try.underlying36 rfl (by kernel_rfl) ?_); (try simp only [Act.put, List.setIfInBounds_toArray, List.set_cons_zero, List.set_cons_succ])) | (with_reducible (show wpList _ _ _ ((⟨some 65, .load 36 (.tmp 12), _, _, _, _⟩ : Oper) :: _) _ _); go_must (refine wpList_load_mid rfl 36 (.tmp 12) rfl (B + 1) 0 rfl [.bool true, .int .i64 1000, .int .i64 5, .int .i64 0, .int .i64 0, .int .i64 0, .string ⟨#[]⟩, .bool false, .int .i64 0, .string X] _ R2.out Try.underlying36 rfl (by kernel_rfl) ?_); (try simp only [Act.put, List.setIfInBounds_toArray, List.set_cons_zero, List.set_cons_succ])) | (with_reducible (show wpList _ _ _ ((⟨some 66, .buildSlice _ _ _, _, _, _, _⟩ : Oper) :: _) _ _); go_must (refine wpList_bsN rfl [(0, .tmp 64), (1, .tmp 65)] rfl Try.underlying23 hi hz0 hz1 rfl [#[.bool false, .int .i64 1000, .int .i64 5, .int .i64 0, .int .i64 0, .int .i64 32, .string ⟨#[]⟩, .bool false, .int .i64 0, .string ⟨#[]⟩], #[.bool true, .int .i64 1000, .int .i64 5, .int .i64 0, .int .i64 0, .int .i64 0, .string ⟨#[]⟩, .bool false, .int .i64 0, .string X]] rfl rfl #[.bool false, .int .i64 1000, .int .i64 5, .int .i64 0, .int .i64 0, .int .i64 32, .string ⟨#[]⟩, .bool false, .int .i64 0, .string ⟨#[]⟩, .bool true, .int .i64 1000, .int .i64 5, .int .i64 0, .int .i64 0, .int .i64 0, .string ⟨#[]⟩, .bool false, .int .i64 0, .string X] rfl rfl (by decide) (by decide) ?_); (try simp only [Act.put, List.setIfInBounds_toArray, List.set_cons_zero, List.set_cons_succ])) | (at_builtin; refine wp_app Try.underlying23 hi hz0 hz1 hz2 rfl (by decide) rfl (.tmp 63) (.tmp 66) rfl N v1 E.length (evCH E) rfl ?c5 _ 2 (evCH (X0 X)) rfl (SR.lit _ _ #[.bool false, .int .i64 1000, .int .i64 5, .int .i64 0, .int .i64 0, .int .i64 32, .string ⟨#[]⟩, .bool false, .int .i64 0, .string ⟨#[]⟩, .bool true, .int .i64 1000, .int .i64 5, .int .i64 0, .int .i64 0, .int .i64 0, .string ⟨#[]⟩, .bool false, .int .i64 0, .string X] 10 2 (by decide) rfl) ?c1 ?c2 ?c3 ?c4 ?_))
  case c5 => exact owns_below H10.out.1 ((Below.refl _ _).alloc (Nat.le_refl _) _)
  case c1 => exact evC_oneH _
  case c2 => have := HH.out.1.n; unfold maxLen; omega
  case c3 => have := HH.out.1.n; omega
  case c4 => have := H10.out.2.2; simp; omega
  intro v2 w11 hown2 hgr2
  have hE2 : Elts w11 Ev.c 10 v2 (E ++ X0 X) := elts_app hown2 rfl rfl
  have hb11 : Below w1.heap.size w1 w11 := below_app (H10.out.2.1.alloc H10.out.2.1.size _) hgr2 (owns_below H10.out.1 ((Below.refl _ _).alloc (Nat.le_refl _) _)) (by have h1 := HS.out.2.2.2.2.2.2.size; have h2 := H9.out.2.2; omega) ((H10.out.2.1.alloc H10.out.2.1.size _).size)
  obtain ⟨hxl, hxo⟩ := four_ok (X := X0 X) HX.out.1.1 HX.out.2.1 (x := Z) (.inl rfl)
  have hok2 := ev_okB HH.out.1.ok hxo
  have hl2 : (E ++ X0 X).length ≤ 2000 := by rw [List.length_append]; have := HH.out.1.n; omega
  have cF := fun (b : Int) wz hz => pfits (E ++ X0 X) 4 b v2 wz (hE2.below hz) hok2 hl2 (uses_okA b hok2 hl2)
  unfold FitsP at cF
  have HBe := Lib.hid (bent0 HH.out.1 HX.out.1)
  have HB11 := Lib.hid hb11
  clear hown2 hgr2 hE2 hb11 hxl hxo hok2 hl2
  go_wp2_with fail
  refine Calls.mono (awake35 _) ?_
  rintro e w12 ⟨rfl, hb12⟩
  have c0 := cF 0 w12 hb12
  have HB12 := Lib.hid hb12
  clear hb12
  go_wp2_with fail
  refine Calls.mono c0 ?_
  rintro e w13 ⟨r0, rfl, hr0, hb13⟩
  obtain rfl : r0 = false := by
    have h := HBe.out.1
    cases r0
    · first | rfl | exact hr0.2 h
    · first | rfl | exact absurd (hr0.1 rfl) h
  have hb13' := HB12.out.trans (hb13.mono HB12.out.size)
  have c1 := cF 1 w13 hb13'
  have HB13 := Lib.hid hb13'
  clear c0 hr0 hb13 hb13' cF
  go_wp2_with fail
  refine Calls.mono c1 ?_
  rintro e w14 ⟨r1, rfl, hr1, hb14⟩
  obtain rfl : r1 = true := hr1.2 HBe.out.2
  have HF := Lib.hid (HH.out.2.2.trans ((HB11.out.trans ((HB13.out.trans (hb14.mono HB13.out.size)).mono HB11.out.size)).mono HH.out.2.2.size))
  clear c1 hr1 hb14
  go_wp2_with fail
  go_ret
  exact ⟨rfl, HF.out⟩
end Go.Proofs.Ytodjlaapmbnahaa
/-
  FlatBent: one of its four ways. Written by genbent.py.
-/

namespace Go.Proofs.Ytodjlaapmbnahaa
open Go.RowKit
set_option linter.unusedVariables false
set_option linter.unusedSimpArgs false

set_option maxHeartbeats 6400000 in
set_option maxRecDepth 100000 in
theorem flatbent_way1 (a : Option Addr) (len cap : Nat) (k : Int) (s : ByteArray) (w : World) (hf : Fits w (.slice (.two (.int .i64) (.two (.two (.int .i64) (.two (.int .i64) (.two (.int .i64) (.two .str (.two .bool .unit))))) (.two .bool .unit)))) [.slice a len cap]) (hk : (Lit.int .i64 k).wf = true) (hs : s.size ≤ maxLen) (hm : k % 4 = 1) :
    Calls Try.prog 4 #[.slice a len cap, .int .i64 k, .string s] w fun e w' => e = .returned (.bool true) ∧ Below w.heap.size w w' := by
  obtain ⟨i0, hi, hz0, hz1, hz2⟩ := info_parts einfoH
  have hmk : bits .and .i64 k 3 = k % 4 := mask_mod k 2 3 (by decide) (by decide)
  rw [hm] at hmk
  have c := phistory a len cap 1 w hf (by decide)
  unfold HistP at c
  clear hm hf hk
  go_enter Try.func4, Try.ntmps4
  go_wp2_with fail
  refine Calls.mono c ?_
  rintro e w1 ⟨hv, E, V, ops, rfl, hA, hMk, hEl, hok, helts, hb1⟩
  have HH := Lib.hid (And.intro (show Hist E V ops from ⟨hA, hMk, hEl, hok⟩) (And.intro helts hb1))
  clear c hA hMk hEl hok helts hb1
  go_wp2_with fail
  refine Calls.mono (pfresh s 1 _ hs (by decide)) ?_
  rintro e w2 ⟨X, rfl, hX, hb2⟩
  have H2 := Lib.hid (And.intro hX hb2)
  clear hX hb2
  go_wp2_with fail
  refine Calls.mono (pfresh s 2 _ hs (by decide)) ?_
  rintro e w3 ⟨Z, rfl, hZ, hb3⟩
  have HX := Lib.hid (And.intro H2.out.1 hZ)
  have HB3 := Lib.hid (H2.out.2.trans (hb3.mono H2.out.2.size))
  clear hZ hb3 H2
  obtain ⟨s1, s2, s3, s4, s5, s6, sb⟩ := six_newB w3 (.cells #[.bool false, .int .i64 1000, .int .i64 5, .int .i64 0, .int .i64 0, .int .i64 32, .string ⟨#[]⟩, .bool false, .int .i64 0, .string ⟨#[]⟩] 36) (.cells #[.bool true, .int .i64 1000, .int .i64 5, .int .i64 0, .int .i64 0, .int .i64 0, .string ⟨#[]⟩, .bool false, .int .i64 0, .string X] 36) (.cells #[.bool false, .int .i64 1001, .int .i64 5, .int .i64 1, .int .i64 0, .int .i64 0, .string X, .bool false, .int .i64 0, .string ⟨#[]⟩] 36) (.cells #[.bool false, .int .i64 1002, .int .i64 5, .int .i64 1, .int .i64 0, .int .i64 0, .string Z, .bool false, .int .i64 0, .string ⟨#[]⟩] 36) (.cells #[.bool true, .int .i64 1001, .int .i64 5, .int .i64 0, .int .i64 0, .int .i64 0, .string ⟨#[]⟩, .bool false, .int .i64 0, .string ⟨#[]⟩] 36) (.cells #[.bool true, .int .i64 1002, .int .i64 5, .int .i64 0, .int .i64 0, .int .i64 0, .string ⟨#[]⟩, .bool false, .int .i64 0, .string ⟨#[]⟩] 36)
  obtain ⟨B, hB⟩ : ∃ B, w3.heap.size = B := ⟨_, rfl⟩
  rw [hB] at s1 s2 s3 s4 s5 s6
  have HS := Lib.hid (And.intro s1 (And.intro s2 (And.intro s3 (And.intro s4 (And.intro s5 (And.intro s6 (HB3.out.trans (sb.mono HB3.out.size))))))))
  clear s1 s2 s3 s4 s5 s6 sb
  go_upto_region 11 with fail
  try simp only [hB]
  generalize (((((w3.alloc (.cells #[.bool false, .int .i64 1000, .int .i64 5, .int .i64 0, .int .i64 0, .int .i64 32, .string ⟨#[]⟩, .bool false, .int .i64 0, .string ⟨#[]⟩] 36)).alloc (.cells #[.bool true, .int .i64 1000, .int .i64 5, .int .i64 0, .int .i64 0, .int .i64 0, .string ⟨#[]⟩, .bool false, .int .i64 0, .string X] 36)).alloc (.cells #[.bool false, .int .i64 1001, .int .i64 5, .int .i64 1, .int .i64 0, .int .i64 0, .string X, .bool false, .int .i64 0, .string ⟨#[]⟩] 36)).alloc (.cells #[.bool false, .int .i64 1002, .int .i64 5, .int .i64 1, .int .i64 0, .int .i64 0, .string Z, .bool false, .int .i64 0, .string ⟨#[]⟩] 36)).alloc (.cells #[.bool true, .int .i64 1001, .int .i64 5, .int .i64 0, .int .i64 0, .int .i64 0, .string ⟨#[]⟩, .bool false, .int .i64 0, .string ⟨#[]⟩] 36)).alloc (.cells #[.bool true, .int .i64 1002, .int .i64 5, .int .i64 0, .int .i64 0, .int .i64 0, .string ⟨#[]⟩, .bool false, .int .i64 0, .string ⟨#[]⟩] 36) = w9 at *
  obtain ⟨N, hN⟩ : ∃ N, w9.heap.size = N := ⟨_, rfl⟩
  have ho9 : (w9.alloc (.cells #[] 36)).ownsRow N 36 10 (.slice (some ⟨w9.heap.size, 0, none⟩) 0 0) 0 [] := by
    have h := World.ownsRow_lit (base := w9.heap.size) (e := 36) (size := 10) w9 #[] 0 (Nat.le_refl _) (by decide) rfl
    exact ⟨h.1, h.2.imp id (fun ⟨g, cap, cur, a, b, c⟩ => ⟨g, cap, cur, a, Nat.le_trans (Nat.le_of_eq hN.symm) b, c⟩)⟩
  have hsr9 : SR (w9.alloc (.cells #[] 36)) hv 10 E.length (evCH E) := elts_to_sr (c := Ev.c) (sz := 10) (fun x => rfl) ((HH.out.2.1.below HS.out.2.2.2.2.2.2).below ((Below.refl _ _).alloc (Nat.le_refl _) _))
  have H9 := Lib.hid (And.intro ho9 (And.intro hsr9 hN))
  clear ho9 hsr9 hN
  go_wp2_with (at_builtin; refine wp_app Try.underlying23 hi hz0 hz1 hz2 rfl (by decide) rfl (.tmp 47) (.tmp 48) rfl N (.slice (some ⟨w9.heap.size, 0, none⟩) 0 0) 0 [] rfl ?c5 hv E.length (evCH E) rfl H9.out.2.1 ?c1 ?c2 ?c3 ?c4 ?_)
  case c5 => exact H9.out.1
  case c1 => exact evC_oneH _
  case c2 => have := HH.out.1.n; unfold maxLen; omega
  case c3 => have := HH.out.1.n; omega
  case c4 => have := H9.out.2.2; simp; omega
  intro v1 w10 hown1 hgr1
  try rw [Nat.zero_add] at hown1
  try rw [List.nil_append] at hown1
  have hk10 : ∀ g, g < N → w10.heap[g]? = w9.heap[g]? := fun g hg => by
    rw [hgr1.block g (by have := H9.out.2.2; simp; omega) (fun e => by have e1 : g = w9.heap.size := Option.some.inj e; have := H9.out.2.2; omega)]
    exact Below.heap_alloc w9 _ g (by have := H9.out.2.2; omega)
  have hlt := lt_heap HS.out.2.2.2.2.2.1
  have hBN : B + 1 + 1 + 1 + 1 + 1 < N := by rw [← H9.out.2.2]; exact hlt
  have R1 : Hid (w10.rangeAt B 0 [.bool false, .int .i64 1000, .int .i64 5, .int .i64 0, .int .i64 0, .int .i64 32, .string ⟨#[]⟩, .bool false, .int .i64 0, .string ⟨#[]⟩]) := Lib.hid (rangeB ((hk10 _ (by omega)).trans HS.out.1))
  have R2 : Hid (w10.rangeAt (B + 1) 0 [.bool true, .int .i64 1000, .int .i64 5, .int .i64 0, .int .i64 0, .int .i64 0, .string ⟨#[]⟩, .bool false, .int .i64 0, .string X]) := Lib.hid (rangeB ((hk10 _ (by omega)).trans HS.out.2.1))
  have R3 : Hid (w10.rangeAt (B + 1 + 1) 0 [.bool false, .int .i64 1001, .int .i64 5, .int .i64 1, .int .i64 0, .int .i64 0, .string X, .bool false, .int .i64 0, .string ⟨#[]⟩]) := Lib.hid (rangeB ((hk10 _ (by omega)).trans HS.out.2.2.1))
  have R4 : Hid (w10.rangeAt (B + 1 + 1 + 1) 0 [.bool false, .int .i64 1002, .int .i64 5, .int .i64 1, .int .i64 0, .int .i64 0, .string Z, .bool false, .int .i64 0, .string ⟨#[]⟩]) := Lib.hid (rangeB ((hk10 _ (by omega)).trans HS.out.2.2.2.1))
  have R5 : Hid (w10.rangeAt (B + 1 + 1 + 1 + 1) 0 [.bool true, .int .i64 1001, .int .i64 5, .int .i64 0, .int .i64 0, .int .i64 0, .string ⟨#[]⟩, .bool false, .int .i64 0, .string ⟨#[]⟩]) := Lib.hid (rangeB ((hk10 _ (by omega)).trans HS.out.2.2.2.2.1))
  have R6 : Hid (w10.rangeAt (B + 1 + 1 + 1 + 1 + 1) 0 [.bool true, .int .i64 1002, .int .i64 5, .int .i64 0, .int .i64 0, .int .i64 0, .string ⟨#[]⟩, .bool false, .int .i64 0, .string ⟨#[]⟩]) := Lib.hid (rangeB ((hk10 _ (by omega)).trans HS.out.2.2.2.2.2.1))
  have hb10 : Below w1.heap.size w1 w10 := by
    have h0 : Below w1.heap.size w1 (w9.alloc (.cells #[] 36)) := HS.out.2.2.2.2.2.2.alloc HS.out.2.2.2.2.2.2.size _
    exact below_app h0 hgr1 H9.out.1 (by rw [← H9.out.2.2]; exact HS.out.2.2.2.2.2.2.size) h0.size
  have H10 := Lib.hid (And.intro hown1 (And.intro hb10 (by have h1 := hgr1.size; have h2 : (w9.alloc (.cells #[] 36)).heap.size = w9.heap.size + 1 := (by simp); have := H9.out.2.2; omega : N ≤ w10.heap.size)))
  clear hown1 hgr1 hk10 hlt hBN hb10 hB
  go_wp2_with (first | (with_reducible (show wpList _ _ _ ((⟨some 71, .load 36 (.tmp 11), _, _, _, _⟩ : Oper) :: _) _ _); go_must (refine wpList_load_mid rfl 36 (.tmp 11) rfl B 0 rfl [.bool false, .int .i64 1000, .int .i64 5, .int .i64 0, .int .i64 0, .int .i64 32, .string ⟨#[]⟩, .bool false, .int .i64 0, .string ⟨#[]⟩] _ R1.out Try.underlying36 rfl (by kernel_rfl) ?_); (try simp only [Act.put, List.setIfInBounds_toArray, List.set_cons_zero, List.set_cons_succ])) | (with_reducible (show wpList _ _ _ ((⟨some 72, .load 36 (.tmp 12), _, _, _, _⟩ : Oper) :: _) _ _); go_must (refine wpList_load_mid rfl 36 (.tmp 12) rfl (B + 1) 0 rfl [.bool true, .int .i64 1000, .int .i64 5, .int .i64 0, .int .i64 0, .int .i64 0, .string ⟨#[]⟩, .bool false, .int .i64 0, .string X] _ R2.out Try.underlying36 rfl (by kernel_rfl) ?_); (try simp only [Act.put, List.setIfInBounds_toArray, List.set_cons_zero, List.set_cons_succ])) | (with_reducible (show wpList _ _ _ ((⟨some 73, .load 36 (.tmp 13), _, _, _, _⟩ : Oper) :: _) _ _); go_must (refine wpList_load_mid rfl 36 (.tmp 13) rfl (B + 1 + 1) 0 rfl [.bool false, .int .i64 1001, .int .i64 5, .int .i64 1, .int .i64 0, .int .i64 0, .string X, .bool false, .int .i64 0, .string ⟨#[]⟩] _ R3.out Try.underlying36 rfl (by kernel_rfl) ?_); (try simp only [Act.put, List.setIfInBounds_toArray, List.set_cons_zero, List.set_cons_succ])) | (with_reducible (show wpList _ _ _ ((⟨some 74, .load 36 (.tmp 15), _, _, _, _⟩ : Oper) :: _) _ _); go_must (refine wpList_load_mid rfl 36 (.tmp 15) rfl (B + 1 + 1 + 1 + 1) 0 rfl [.bool true, .int .i64 1001, .int .i64 5, .int .i64 0, .int .i64 0, .int .i64 0, .string ⟨#[]⟩, .bool false, .int .i64 0, .string ⟨#[]⟩] _ R5.out Try.underlying36 rfl (by kernel_rfl) ?_); (try simp only [Act.put, List.setIfInBounds_toArray, List.set_cons_zero, List.set_cons_succ])) | (with_reducible (show wpList _ _ _ ((⟨some 75, .buildSlice _ _ _, _, _, _, _⟩ : Oper) :: _) _ _); go_must (refine wpList_bsN rfl [(0, .tmp 71), (1, .tmp 72), (2, .tmp 73), (3, .tmp 74)] rfl Try.underlying23 hi hz0 hz1 rfl [#[.bool false, .int .i64 1000, .int .i64 5, .int .i64 0, .int .i64 0, .int .i64 32, .string ⟨#[]⟩, .bool false, .int .i64 0, .string ⟨#[]⟩], #[.bool true, .int .i64 1000, .int .i64 5, .int .i64 0, .int .i64 0, .int .i64 0, .string ⟨#[]⟩, .bool false, .int .i64 0, .string X], #[.bool false, .int .i64 1001, .int .i64 5, .int .i64 1, .int .i64 0, .int .i64 0, .string X, .bool false, .int .i64 0, .string ⟨#[]⟩], #[.bool true, .int .i64 1001, .int .i64 5, .int .i64 0, .int .i64 0, .int .i64 0, .string ⟨#[]⟩, .bool false, .int .i64 0, .string ⟨#[]⟩]] rfl rfl #[.bool false, .int .i64 1000, .int .i64 5, .int .i64 0, .int .i64 0, .int .i64 32, .string ⟨#[]⟩, .bool false, .int .i64 0, .string ⟨#[]⟩, .bool true, .int .i64 1000, .int .i64 5, .int .i64 0, .int .i64 0, .int .i64 0, .string ⟨#[]⟩, .bool false, .int .i64 0, .string X, .bool false, .int .i64 1001, .int .i64 5, .int .i64 1, .int .i64 0, .int .i64 0, .string X, .bool false, .int .i64 0, .string ⟨#[]⟩, .bool true, .int .i64 1001, .int .i64 5, .int .i64 0, .int .i64 0, .int .i64 0, .string ⟨#[]⟩, .bool false, .int .i64 0, .string ⟨#[]⟩] rfl rfl (by decide) (by decide) ?_); (try simp only [Act.put, List.setIfInBounds_toArray, List.set_cons_zero, List.set_cons_succ])) | (at_builtin; refine wp_app Try.underlying23 hi hz0 hz1 hz2 rfl (by decide) rfl (.tmp 70) (.tmp 75) rfl N v1 E.length (evCH E) rfl ?c5 _ 4 (evCH (X1 X)) rfl (SR.lit _ _ #[.bool false, .int .i64 1000, .int .i64 5, .int .i64 0, .int .i64 0, .int .i64 32, .string ⟨#[]⟩, .bool false, .int .i64 0, .string ⟨#[]⟩, .bool true, .int .i64 1000, .int .i64 5, .int .i64 0, .int .i64 0, .int .i64 0, .string ⟨#[]⟩, .bool false, .int .i64 0, .string X, .bool false, .int .i64 1001, .int .i64 5, .int .i64 1, .int .i64 0, .int .i64 0, .string X, .bool false, .int .i64 0, .string ⟨#[]⟩, .bool true, .int .i64 1001, .int .i64 5, .int .i64 0, .int .i64 0, .int .i64 0, .string ⟨#[]⟩, .bool false, .int .i64 0, .string ⟨#[]⟩] 10 4 (by decide) rfl) ?c1 ?c2 ?c3 ?c4 ?_))
  case c5 => exact owns_below H10.out.1 ((Below.refl _ _).alloc (Nat.le_refl _) _)
  case c1 => exact evC_oneH _
  case c2 => have := HH.out.1.n; unfold maxLen; omega
  case c3 => have := HH.out.1.n; omega
  case c4 => have := H10.out.2.2; simp; omega
  intro v2 w11 hown2 hgr2
  have hE2 : Elts w11 Ev.c 10 v2 (E ++ X1 X) := elts_app hown2 rfl rfl
  have hb11 : Below w1.heap.size w1 w11 := below_app (H10.out.2.1.alloc H10.out.2.1.size _) hgr2 (owns_below H10.out.1 ((Below.refl _ _).alloc (Nat.le_refl _) _)) (by have h1 := HS.out.2.2.2.2.2.2.size; have h2 := H9.out.2.2; omega) ((H10.out.2.1.alloc H10.out.2.1.size _).size)
  obtain ⟨hxl, hxo⟩ := four_ok (X := X1 X) HX.out.1.1 HX.out.2.1 (x := Z) (.inr (.inl rfl))
  have hok2 := ev_okB HH.out.1.ok hxo
  have hl2 : (E ++ X1 X).length ≤ 2000 := by rw [List.length_append]; have := HH.out.1.n; omega
  have cF := fun (b : Int) wz hz => pfits (E ++ X1 X) 4 b v2 wz (hE2.below hz) hok2 hl2 (uses_okA b hok2 hl2)
  unfold FitsP at cF
  have HBe := Lib.hid (bent1 HH.out.1 HX.out.1)
  have HB11 := Lib.hid hb11
  clear hown2 hgr2 hE2 hb11 hxl hxo hok2 hl2
  go_wp2_with fail
  refine Calls.mono (awake35 _) ?_
  rintro e w12 ⟨rfl, hb12⟩
  have c0 := cF 0 w12 hb12
  have HB12 := Lib.hid hb12
  clear hb12
  go_wp2_with fail
  refine Calls.mono c0 ?_
  rintro e w13 ⟨r0, rfl, hr0, hb13⟩
  obtain rfl : r0 = false := by
    have h := HBe.out.1
    cases r0
    · first | rfl | exact hr0.2 h
    · first | rfl | exact absurd (hr0.1 rfl) h
  have hb13' := HB12.out.trans (hb13.mono HB12.out.size)
  have c1 := cF 1 w13 hb13'
  have HB13 := Lib.hid hb13'
  clear c0 hr0 hb13 hb13' cF
  go_wp2_with fail
  refine Calls.mono c1 ?_
  rintro e w14 ⟨r1, rfl, hr1, hb14⟩
  obtain rfl : r1 = true := hr1.2 HBe.out.2
  have HF := Lib.hid (HH.out.2.2.trans ((HB11.out.trans ((HB13.out.trans (hb14.mono HB13.out.size)).mono HB11.out.size)).mono HH.out.2.2.size))
  clear c1 hr1 hb14
  go_wp2_with fail
  go_ret
  exact ⟨rfl, HF.out⟩
end Go.Proofs.Ytodjlaapmbnahaa
