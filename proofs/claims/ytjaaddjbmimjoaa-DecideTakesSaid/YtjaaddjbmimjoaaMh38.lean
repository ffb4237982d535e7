/-
  Several texts, laid together.
-/
import Derived.Test.YtjaaddjbmimjoaaMh37
import Derived.Test.YtjaaddjbmimjoaaMh7
/-
  DecideTakes' law.
-/


namespace Go.Proofs.Ytjaaddjbmimjoaa
open Go.RowKit
set_option linter.unusedVariables false
set_option linter.unusedSimpArgs false

def CutB (w : World) (sv : Value) (wx : World) : Prop := ∃ B : ByteArray, sv = .string B ∧ B.size ≤ 200500 ∧ Below w.heap.size w wx
def SRel (K : Nat) (w wr : World) : Prop :=
  ∃ (s : DS) (a1 : Option Addr) (q1 : Nat) (a2 : Option Addr) (q2 : Nat) (a3 : Option Addr) (q3 : Nat) (a4 : Option Addr) (q4 : Nat), wr.heap[K]? = some (.cells #[.int .i64 s.ep, .int .i64 s.a.e, .int .i64 s.a.b, .int .i64 s.a.k, .slice a1 s.a.M.length q1, .slice a2 s.a.C.length q2, .int .i64 s.n.e, .int .i64 s.n.b, .int .i64 s.n.k, .slice a3 s.n.M.length q3, .slice a4 s.n.C.length q4, .int .i64 s.s0, .int .i64 s.s1] 42) ∧ LG K wr (.slice a1 s.a.M.length q1) (.slice a2 s.a.C.length q2) s.a.M s.a.C ∧ LG K wr (.slice a3 s.n.M.length q3) (.slice a4 s.n.C.length q4) s.n.M s.n.C ∧ LowS s ∧ Below w.heap.size w wr
theorem srel_start (w wx : World) (hb : Below w.heap.size w wx) : SRel wx.heap.size w (wx.alloc (.cells #[.int .i64 0, .int .i64 0, .int .i64 0, .int .i64 0, .slice none 0 0, .slice none 0 0, .int .i64 0, .int .i64 0, .int .i64 0, .slice none 0 0, .slice none 0 0, .int .i64 0, .int .i64 0] 42)) := by
  refine ⟨DS.z, none, 0, none, 0, none, 0, none, 0, heap_alloc_self _ _, ?_, ?_, ?_, hb.alloc hb.size _⟩
  · exact ⟨⟨SR.nil_ _ 1, .inl rfl⟩, ⟨SR.nil_ _ 1, .inl rfl⟩⟩
  · exact ⟨⟨SR.nil_ _ 1, .inl rfl⟩, ⟨SR.nil_ _ 1, .inl rfl⟩⟩
  · refine ⟨by decide, ?_, ?_, by decide, by decide⟩
    all_goals exact ⟨⟨by decide, fun x hx => by simp [DS.z, CF.z] at hx; omega⟩, ⟨by decide, fun x hx => by simp [DS.z, CF.z] at hx⟩, ⟨by decide, fun x hx => by simp [DS.z, CF.z] at hx⟩⟩
theorem meas_5 {j : Nat} (h : (j : Int) < 5) : 5 - (intOf (.int .i64 ((j : Int) + 1))).toNat < 5 - (intOf (.int .i64 (j : Int))).toNat := by
  show 5 - ((j : Int) + 1).toNat < 5 - ((j : Int)).toNat
  omega
theorem below_undrewB {w w' : World} (h : Below w.drew.heap.size w.drew w') : Below w.heap.size w w' := ⟨h.os, h.tape, h.output, h.size, h.block⟩
theorem tmod_in (a n : Int) (ha : 0 ≤ a) (hn : 0 ≤ n) : 0 ≤ a.tmod (n + 1) ∧ a.tmod (n + 1) ≤ n := by
  have h1 := Int.tmod_nonneg (n + 1) ha
  have h2 := Int.tmod_lt_of_pos a (show 0 < n + 1 by omega)
  omega
set_option maxHeartbeats 12800000 in
set_option maxRecDepth 100000 in
theorem decidetakes_law (cc : Array Value) (al : Option Addr) (ll cl : Nat) (D : ByteArray) (w : World) (hf0 : Fits w cmdShK cc.toList) (hf1 : Fits w (.slice cmdShK) [.slice al ll cl]) (hD : D.size ≤ 140737488355328) :
    Calls Try.prog 3 #[.agg cc, .slice al ll cl, .string D] w fun e w' => e = .returned (.bool true) ∧ Below w.heap.size w w' := by
  obtain ⟨r0, hc0, hr0⟩ := fits_rcK hf0
  obtain rfl : cc = #[.int .i64 r0.x, .int .i64 r0.c.e, .int .i64 r0.c.b, .int .i64 r0.c.k, .slice r0.a5 r0.c.M.length r0.q5, .slice r0.a6 r0.c.C.length r0.q6] := by rw [← Array.toList_inj, hc0]; rfl
  obtain ⟨rs, hlr, hel, hrs⟩ := fits_rows (c := RC.cells) (good := fun r => r.at_ w) (fun ys h => fits_rcK h) hf1
  have hcm := hf1.slice.2.1
  have hlc := hf1.slice.1
  unfold maxLen at hcm
  have HL := Lib.hid (And.intro hlr (And.intro hel (And.intro hrs (And.intro hcm hlc))))
  have hx := heap_alloc_self w (.cells #[.int .i64 r0.x, .int .i64 r0.c.e, .int .i64 r0.c.b, .int .i64 r0.c.k, .slice r0.a5 r0.c.M.length r0.q5, .slice r0.a6 r0.c.C.length r0.q6] 26)
  have hb := (Below.refl w.heap.size w).alloc (Nat.le_refl _) (.cells #[.int .i64 r0.x, .int .i64 r0.c.e, .int .i64 r0.c.b, .int .i64 r0.c.k, .slice r0.a5 r0.c.M.length r0.q5, .slice r0.a6 r0.c.C.length r0.q6] 26)
  have cN := near12K r0 6 (by decide) w.heap.size (w.alloc (.cells #[.int .i64 r0.x, .int .i64 r0.c.e, .int .i64 r0.c.b, .int .i64 r0.c.k, .slice r0.a5 r0.c.M.length r0.q5, .slice r0.a6 r0.c.C.length r0.q6] 26)) (by simp) (CFat.below hr0 hb)
  have hDi : (D.size : Int) ≤ 140737488355328 := by omega
  have HB := Lib.hid hb
  clear hlr hel hrs hcm hlc hf0 hf1 hc0 hr0 hb hD
  unfold N12K at cN
  go_enter Try.func3, Try.ntmps3
  go_upto_region 1 with fail
  generalize w.alloc (.cells #[.int .i64 r0.x, .int .i64 r0.c.e, .int .i64 r0.c.b, .int .i64 r0.c.k, .slice r0.a5 r0.c.M.length r0.q5, .slice r0.a6 r0.c.C.length r0.q6] 26) = w1 at *
  have k0 := cell_atD hx 0 (v := .int .i64 r0.x) rfl
  have k1 := cell_atD hx 1 (v := .int .i64 r0.c.e) rfl
  have k2 := cell_atD hx 2 (v := .int .i64 r0.c.b) rfl
  have k3 := cell_atD hx 3 (v := .int .i64 r0.c.k) rfl
  have k4 := cell_atD hx 4 (v := .slice r0.a5 r0.c.M.length r0.q5) rfl
  have k5 := cell_atD hx 5 (v := .slice r0.a6 r0.c.C.length r0.q6) rfl
  go_wp2_with fail
  refine Calls.mono cN ?_
  rintro ev w2 ⟨y, d, a1, p1, a2, p2, rfl, hG2, hb2⟩
  have hP := heap_alloc_self w2 (.cells #[.int .i64 y, .int .i64 d.e, .int .i64 d.b, .int .i64 d.k, .slice a1 d.M.length p1, .slice a2 d.C.length p2] 26)
  have hb23 := (Below.refl w2.heap.size w2).alloc (Nat.le_refl _) (.cells #[.int .i64 y, .int .i64 d.e, .int .i64 d.b, .int .i64 d.k, .slice a1 d.M.length p1, .slice a2 d.C.length p2] 26)
  have H3 := Lib.hid (And.intro hP (And.intro (hG2.below hb23).cf ((HB.out.trans (hb2.mono HB.out.size)).trans (hb23.mono (Nat.le_trans HB.out.size hb2.size)))))
  clear hP hb23 hG2 hb2 HB cN hx k0 k1 k2 k3 k4 k5
  go_upto_region 2 with fail
  generalize w2.alloc (.cells #[.int .i64 y, .int .i64 d.e, .int .i64 d.b, .int .i64 d.k, .slice a1 d.M.length p1, .slice a2 d.C.length p2] 26) = w3 at *
  obtain ⟨X, hX⟩ : ∃ X, w2.heap.size = X := ⟨_, rfl⟩
  rw [hX] at H3
  try rw [hX]
  clear hX
  have k0 := cell_atD H3.out.1 0 (v := .int .i64 y) rfl
  have k1 := cell_atD H3.out.1 1 (v := .int .i64 d.e) rfl
  have k2 := cell_atD H3.out.1 2 (v := .int .i64 d.b) rfl
  have k3 := cell_atD H3.out.1 3 (v := .int .i64 d.k) rfl
  have k4 := cell_atD H3.out.1 4 (v := .slice a1 d.M.length p1) rfl
  have k5 := cell_atD H3.out.1 5 (v := .slice a2 d.C.length p2) rfl
  have cM := rmayK y d a1 a2 p1 p2 w3 H3.out.2.1
  obtain ⟨mb, hmb⟩ : ∃ b, mayK y d = b := ⟨_, rfl⟩
  rw [hmb] at cM
  have HMB := Lib.hid hmb
  clear hmb
  go_wp2_with fail
  refine Calls.mono cM ?_
  rintro ev w4 ⟨rfl, hb4⟩
  have H4 := Lib.hid (And.intro (below_at hb4 (lt_heap H3.out.1) H3.out.1) (And.intro (CFat.below H3.out.2.1 hb4) (H3.out.2.2.trans (hb4.mono H3.out.2.2.size))))
  clear k0 k1 k2 k3 k4 k5 cM hb4 H3
  go_upto_if 23 with fail
  go_cut [8] (fun sv wx => ∃ P : ByteArray, sv = .string P ∧ P.size ≤ 50000 ∧ Hid (Below w.heap.size w wx))
  case first =>
    rcases mb with _ | _
    · have HF := Lib.hid (show ∃ P : ByteArray, Value.string ⟨#[0]⟩ = .string P ∧ P.size ≤ 50000 ∧ Hid (Below w.heap.size w w4) from ⟨_, rfl, by decide, Lib.hid H4.out.2.2⟩)
      go_wp2_with fail
      go_meet
      exact HF.out
    · have hm := mayK_in HMB.out
      have cp := rpcmd y d a1 a2 p1 p2 w4 H4.out.2.1 HMB.out
      have hPl := putD_len (x := y) (c := d) ⟨hm.1, by have := hm.2.1; omega⟩ hm.2.2.1
      obtain ⟨P, hPP⟩ : ∃ P : ByteArray, (⟨(putD y d).toArray⟩ : ByteArray) = P := ⟨_, rfl⟩
      have hPs : P.size ≤ 50000 := by
        rw [← hPP]
        show (putD y d).toArray.size ≤ 50000
        rw [List.size_toArray]
        omega
      rw [hPP] at cp
      clear hPP hPl hm
      have k0 := cell_atD H4.out.1 0 (v := .int .i64 y) rfl
      have k1 := cell_atD H4.out.1 1 (v := .int .i64 d.e) rfl
      have k2 := cell_atD H4.out.1 2 (v := .int .i64 d.b) rfl
      have k3 := cell_atD H4.out.1 3 (v := .int .i64 d.k) rfl
      have k4 := cell_atD H4.out.1 4 (v := .slice a1 d.M.length p1) rfl
      have k5 := cell_atD H4.out.1 5 (v := .slice a2 d.C.length p2) rfl
      go_wp2_with fail
      refine Calls.mono cp ?_
      rintro ev w5 ⟨rfl, hb5⟩
      have HF := Lib.hid (show ∃ P' : ByteArray, Value.string P = .string P' ∧ P'.size ≤ 50000 ∧ Hid (Below w.heap.size w w5) from ⟨_, rfl, hPs, Lib.hid (H4.out.2.2.trans (hb5.mono H4.out.2.2.size))⟩)
      clear hPs hb5 k0 k1 k2 k3 k4 k5
      go_wp2_with fail
      go_meet
      exact HF.out
  case rest =>
    obtain ⟨P, rfl, hPs, HB4⟩ := hcut
    obtain ⟨W4, hW4⟩ : ∃ W, W = wc := ⟨_, rfl⟩
    subst hW4
    clear H4 HMB
    go_upto_region 5 with fail
    have hdn := tmod_in ((D.size : Int) * 7) (P.size : Int) (by omega) (by omega)
    obtain ⟨k, hk⟩ : ∃ k, ((D.size : Int) * 7).tmod ((P.size : Int) + 1) = k := ⟨_, rfl⟩
    rw [hk] at hdn
    obtain ⟨hk0, hk1⟩ := hdn
    have hp0 : (0 : Int) ≤ (P.size : Int) := by omega
    have hp1 : (P.size : Int) ≤ 100000 := by omega
    obtain ⟨u, hu⟩ : ∃ u, min (D.size : Int) 4 = u := ⟨_, rfl⟩
    have hu1 : u ≤ 4 := by omega
    have hu2 : u ≤ (D.size : Int) := by omega
    have hu0 : 0 ≤ u := by omega
    have hbit : bits .and .i64 (D.size : Int) 1 = (D.size : Int) % 2 := mask_mod (D.size : Int) 1 1 (by decide) (by decide)
    obtain ⟨b, hbb⟩ : ∃ b, (D.size : Int) % 2 = b := ⟨_, rfl⟩
    have hb0 : 0 ≤ b := by omega
    have hb1 : b ≤ 1 := by omega
    rw [hbb] at hbit
    obtain ⟨m, hm⟩ : ∃ m, min (k + b) (P.size : Int) = m := ⟨_, rfl⟩
    have hm00 : 0 ≤ m := by omega
    have hm01 : m ≤ (P.size : Int) := by omega
    have hn0 : ¬ (P.size : Int) + 1 = 0 := by omega
    clear hbb
    go_upto_region 6 with fail
    go_cut [8] from 33 to 53 (fun sv wx => CutB w sv wx)
    case first =>
      have hww : IntKind.i64.wrap (k + b) = k + b := IntWalk.i64_in _ (by omega)
      go_quiet (fail)
      go_wp2_with fail
      go_meet
      exact ⟨_, rfl, by { clear hww; simp only [ByteArray.size_append, ByteArray.size_extract]; omega }, below_drewN' HB4.out _⟩
    case rest =>
      obtain ⟨B, rfl, hBs, hB5⟩ := hcut
      clear hk hk0 hk1 hp0 hp1 hu hu1 hu2 hu0 hbit hb0 hb1 hm hm00 hm01 hn0
      obtain ⟨W5, hW5⟩ : ∃ W, W = wc := ⟨_, rfl⟩
      subst hW5
      obtain ⟨S, rfl⟩ : ∃ S : List UInt8, B = ⟨S.toArray⟩ := ⟨B.data.toList, str_ext (by simp)⟩
      have hSl : S.length ≤ 1000000 := by
        have : (⟨S.toArray⟩ : ByteArray).size = S.length := List.size_toArray
        omega
      have HB5 := Lib.hid hB5
      have cf := from_any ⟨S.toArray⟩ W5
      have hs6 : Src (W5.alloc (.cells #[.string ⟨S.toArray⟩, .int .i64 0] 109)) W5.heap.size ⟨S, 0⟩ := heap_alloc_self _ _
      have hb6 := (Below.refl W5.heap.size W5).alloc (Nat.le_refl _) (.cells #[.string ⟨S.toArray⟩, .int .i64 0] 109)
      have cz := dtakeG ⟨S, 0⟩ W5.heap.size _ hs6
      have ct := fun w => dtakeR ⟨S, 0⟩ w (.inl rfl) hSl
      have hmy := cmd_may ⟨S, 0⟩
      unfold DTakeP at cz
      unfold RDT at ct
      obtain ⟨S1, hS1⟩ : ∃ S1, (⟨S, 0⟩ : RS).cmdS = S1 := ⟨_, rfl⟩
      obtain ⟨x1, hx1⟩ : ∃ t, (⟨S, 0⟩ : RS).cmdK = t := ⟨_, rfl⟩
      obtain ⟨c1, hc1⟩ : ∃ t, (⟨S, 0⟩ : RS).cmdV = t := ⟨_, rfl⟩
      rw [hS1, hx1, hc1] at cz hmy
      simp only [hS1, hx1, hc1] at ct
      have CT := Lib.hid ct
      have HMY := Lib.hid hmy
      have H6 := Lib.hid (And.intro hs6 (And.intro hb6 (show W5.heap.size < (W5.alloc (.cells #[.string ⟨S.toArray⟩, .int .i64 0] 109)).heap.size by simp)))
      clear hS1 hx1 hc1 ct hmy hSl hBs hB5 hs6 hb6 hPs HB4
      go_wp2_with fail
      refine Calls.mono cf ?_
      rintro ev w6' ⟨rfl, rfl⟩
      clear cf
      go_upto_region 8 with fail
      generalize W5.alloc (.cells #[.string ⟨S.toArray⟩, .int .i64 0] 109) = w6 at *
      go_wp2_with fail
      refine Calls.mono cz ?_
      rintro ev w7 ⟨d1, s1, d2, s2, rfl, hL7, s7, t7⟩
      have hP := heap_alloc_self w7 (.cells #[.int .i64 x1, .int .i64 c1.e, .int .i64 c1.b, .int .i64 c1.k, .slice d1 c1.M.length s1, .slice d2 c1.C.length s2] 26)
      have hb78 := (Below.refl w7.heap.size w7).alloc (Nat.le_refl _) (.cells #[.int .i64 x1, .int .i64 c1.e, .int .i64 c1.b, .int .i64 c1.k, .slice d1 c1.M.length s1, .slice d2 c1.C.length s2] 26)
      have H8 := Lib.hid (And.intro hP (And.intro (CFat.below hL7.at_ hb78) (And.intro (below_at hb78 (lt_heap s7) s7) (And.intro (HB5.out.trans (((H6.out.2.1.trans (t7.below (B := W5.heap.size) (Nat.le_refl _) H6.out.2.1.size)).trans (hb78.mono (Nat.le_trans H6.out.2.1.size t7.size))).mono HB5.out.size)) (show W5.heap.size < w7.heap.size from lt_heap s7)))))
      clear hP hb78 hL7 s7 t7 cz H6 HB5
      go_upto_region 9 with fail
      generalize w7.alloc (.cells #[.int .i64 x1, .int .i64 c1.e, .int .i64 c1.b, .int .i64 c1.k, .slice d1 c1.M.length s1, .slice d2 c1.C.length s2] 26) = w8 at *
      obtain ⟨Xy, hX⟩ : ∃ X, w7.heap.size = X := ⟨_, rfl⟩
      rw [hX] at H8
      try rw [hX]
      clear hX
      obtain ⟨Y, hY⟩ : ∃ X, W5.heap.size = X := ⟨_, rfl⟩
      rw [hY] at H8
      try rw [hY]
      clear hY
      have ct := CT.out w8
      unfold rC at ct
      go_wp2_with fail
      refine Calls.mono ct ?_
      rintro ev w9 ⟨d3, s3, d4, s4, rfl, hL9, hb9⟩
      obtain ⟨hR, hZ⟩ := two_blocks w9 (.cells #[.string ⟨S1.s.toArray⟩, .int .i64 S1.e] 35) (.cells #[.int .i64 x1, .int .i64 c1.e, .int .i64 c1.b, .int .i64 c1.k, .slice d3 c1.M.length s3, .slice d4 c1.C.length s4] 26)
      have hb9A : Below w9.heap.size w9 ((w9.alloc (.cells #[.string ⟨S1.s.toArray⟩, .int .i64 S1.e] 35)).alloc (.cells #[.int .i64 x1, .int .i64 c1.e, .int .i64 c1.b, .int .i64 c1.k, .slice d3 c1.M.length s3, .slice d4 c1.C.length s4] 26)) := ((Below.refl _ _).alloc (Nat.le_refl _) _).alloc (by simp) _
      have hb8A := hb9.trans (hb9A.mono hb9.size)
      have HA := Lib.hid (And.intro hR (And.intro hZ (And.intro (CFat.below hL9.at_ hb9A) (And.intro (below_at hb8A (lt_heap H8.out.1) H8.out.1) (And.intro (CFat.below H8.out.2.1 hb8A) (And.intro (below_at hb8A (lt_heap H8.out.2.2.1) H8.out.2.2.1) (H8.out.2.2.2.1.trans (hb8A.mono H8.out.2.2.2.1.size))))))))
      clear hR hZ hb9A hb8A hL9 hb9 H8 ct CT
      go_upto_region 10 with fail
      generalize (w9.alloc (.cells #[.string ⟨S1.s.toArray⟩, .int .i64 S1.e] 35)).alloc (.cells #[.int .i64 x1, .int .i64 c1.e, .int .i64 c1.b, .int .i64 c1.k, .slice d3 c1.M.length s3, .slice d4 c1.C.length s4] 26) = wA at *
      obtain ⟨V, hV⟩ : ∃ X, w9.heap.size = X := ⟨_, rfl⟩
      rw [hV] at HA
      try rw [hV]
      clear hV
      go_cut [86] from 63 to 86 (fun v wx => v = .bool false ∧ Hid (Below w.heap.size w wx))
      case first =>
        obtain ⟨v0, v1, -⟩ := two_cellsR HA.out.1
        have z0 := cell_atD HA.out.2.1 0 (v := .int .i64 x1) rfl
        have z1 := cell_atD HA.out.2.1 1 (v := .int .i64 c1.e) rfl
        have z2 := cell_atD HA.out.2.1 2 (v := .int .i64 c1.b) rfl
        have z3 := cell_atD HA.out.2.1 3 (v := .int .i64 c1.k) rfl
        have z4 := cell_atD HA.out.2.1 4 (v := .slice d3 c1.M.length s3) rfl
        have z5 := cell_atD HA.out.2.1 5 (v := .slice d4 c1.C.length s4) rfl
        have y0 := cell_atD HA.out.2.2.2.1 0 (v := .int .i64 x1) rfl
        have y1 := cell_atD HA.out.2.2.2.1 1 (v := .int .i64 c1.e) rfl
        have y2 := cell_atD HA.out.2.2.2.1 2 (v := .int .i64 c1.b) rfl
        have y3 := cell_atD HA.out.2.2.2.1 3 (v := .int .i64 c1.k) rfl
        have y4 := cell_atD HA.out.2.2.2.1 4 (v := .slice d1 c1.M.length s1) rfl
        have y5 := cell_atD HA.out.2.2.2.1 5 (v := .slice d2 c1.C.length s2) rfl
        by_cases hE : S1.e = 0
        · have hu : (S1.e == 0) = true := by simpa using hE
          have hmy := HMY.out hE
          have hm := mayK_in hmy
          have hTl := putD_len (x := x1) (c := c1) ⟨hm.1, by have := hm.2.1; omega⟩ hm.2.2.1
          obtain ⟨N, hN⟩ : ∃ N, wA.heap.size = N := ⟨_, rfl⟩
          have hNW : N ≤ wA.heap.size := by omega
          have l1 : V < N := by rw [← hN]; exact lt_heap HA.out.1
          have l2 : V + 1 < N := by rw [← hN]; exact lt_heap HA.out.2.1
          have l3 : Xy < N := by rw [← hN]; exact lt_heap HA.out.2.2.2.1
          obtain ⟨TT, hTT⟩ : ∃ P : ByteArray, (⟨(putD x1 c1).toArray⟩ : ByteArray) = P := ⟨_, rfl⟩
          have m1 : ∀ w', N ≤ w'.heap.size ∧ Below N wA w' → Calls Try.prog 9 #[.agg #[.int .i64 x1, .int .i64 c1.e, .int .i64 c1.b, .int .i64 c1.k, .slice d1 c1.M.length s1, .slice d2 c1.C.length s2]] w' fun e w'' => e = .returned (.string TT) ∧ Stays N w' w'' := by
            intro w' h
            rw [← hTT]
            exact (rpcmd x1 c1 d1 d2 s1 s2 w' (CFat.below HA.out.2.2.2.2.1 (by rw [hN]; exact h.2)) hmy).mono fun e w'' ⟨he, hw⟩ => ⟨he, stays_of h.1 hw⟩
          have m2 : ∀ w', N ≤ w'.heap.size ∧ Below N wA w' → Calls Try.prog 9 #[.agg #[.int .i64 x1, .int .i64 c1.e, .int .i64 c1.b, .int .i64 c1.k, .slice d3 c1.M.length s3, .slice d4 c1.C.length s4]] w' fun e w'' => e = .returned (.string TT) ∧ Stays N w' w'' := by
            intro w' h
            rw [← hTT]
            exact (rpcmd x1 c1 d3 d4 s3 s4 w' (CFat.below HA.out.2.2.1 (by rw [hN]; exact h.2)) hmy).mono fun e w'' ⟨he, hw⟩ => ⟨he, stays_of h.1 hw⟩
          have m3 : ∀ w', N ≤ w'.heap.size ∧ Below N wA w' → Calls Try.prog 13 #[.pointer (some ⟨Y, 0, none⟩)] w' fun e w'' => e = .returned (.int .i64 S1.e) ∧ Stays N w' w'' := by
            intro w' h
            have hs : Src w' Y S1 := below_at h.2 (by rw [← hN]; exact lt_heap HA.out.2.2.2.2.2.1) HA.out.2.2.2.2.2.1
            exact (err_some Y S1.e w' (Src.c1 hs)).mono fun e w'' ⟨he, hw⟩ => ⟨he, by subst hw; exact stays_of h.1 (Below.refl _ _)⟩
          have HN := Lib.hid hN
          clear hN hTT hTl hm hmy hE
          go_region_held3 (fun w' => N ≤ w'.heap.size ∧ Below N wA w' ∧ ∀ b o, b < N → w'.cell? ⟨b, o, none⟩ = wA.cell? ⟨b, o, none⟩) (first | with_reducible exact keeps_next (by assumption) (by assumption) | exact keepsV_start hNW) (first | (go_at_call 13; (with_reducible refine Calls.mono (m3 _ ?hk) ?_); (case hk => exact keepsV_two (by assumption)); rintro ev wz ⟨rfl, hzz⟩) | (go_at_call 9; (with_reducible refine Calls.mono (m1 _ ?hk) ?_); (case hk => exact keepsV_two (by assumption)); rintro ev wz ⟨rfl, hzz⟩) | (go_at_call 9; (with_reducible refine Calls.mono (m2 _ ?hk) ?_); (case hk => exact keepsV_two (by assumption)); rintro ev wz ⟨rfl, hzz⟩))
          all_goals
            rename_i hfin
            have HF := Lib.hid (HA.out.2.2.2.2.2.2.trans (hfin.2.1.mono (by have := HA.out.2.2.2.2.2.2.size; have := HN.out; omega)))
            clear hfin m1 m2 m3
            go_wp2_with fail
            go_meet
            exact ⟨by simp, HF⟩
        · have hu : (S1.e == 0) = false := by simpa using hE
          have hY0 := HA.out.2.2.2.2.2.1
          have n1 : (S1.e != S1.e) = false := by simp
          have n2 : (x1 != x1) = false := by simp
          have cE : ∀ q, Calls Try.prog 13 #[.pointer (some ⟨Y, 0, none⟩)] (wA.drewN q) fun e w' => e = .returned (.int .i64 S1.e) ∧ w' = wA.drewN q := fun q => (err_some Y S1.e (wA.drewN q) (Src.c1 (w := wA.drewN q) hY0)).mono fun e w' h => ⟨h.1, h.2.symm⟩
          go_quiet ((go_at_call 13; exact Calls.quiet_of_same (cE _)))
          have HF := Lib.hid (below_drewN' HA.out.2.2.2.2.2.2 nq)
          go_wp2_with fail
          go_meet
          exact ⟨by simp, HF⟩
      case rest =>
        obtain ⟨rfl, HBx⟩ := hcut
        obtain ⟨W6, hW6⟩ : ∃ W, W = wc := ⟨_, rfl⟩
        subst hW6
        clear HA HMY
        have HS0 := Lib.hid (srel_start w W6 HBx.out)
        have HKl := Lib.hid (show w.heap.size ≤ W6.heap.size from HBx.out.size)
        clear HBx
        go_upto_block 0 with fail
        generalize W6.alloc (.cells #[.int .i64 0, .int .i64 0, .int .i64 0, .int .i64 0, .slice none 0 0, .slice none 0 0, .int .i64 0, .int .i64 0, .int .i64 0, .slice none 0 0, .slice none 0 0, .int .i64 0, .int .i64 0] 42) = wm at *
        obtain ⟨K, hK⟩ : ∃ K, W6.heap.size = K := ⟨_, rfl⟩
        rw [hK] at HS0 HKl
        try rw [hK]
        clear hK
        go_cut [15] from 88 to 105 (fun _ wx => Hid (SRel K w wx))
        case first =>
          go_wp2_with fail
          go_loopw [15] (fun i wr => ∃ j : Nat, j ≤ 5 ∧ i = .int .i64 (j : Int) ∧ Hid (SRel K w wr)) (fun i _ => 5 - (intOf i).toNat)
          case atStart => exact ⟨0, by decide, rfl, HS0⟩
          case round =>
            clear HS0
            obtain ⟨n, hn5, rfl, HR⟩ := hrel
            by_cases hin : n < ll ∧ (n : Int) < 5
            · obtain ⟨hi1, hi2⟩ := hin
              have hi1' : (n : Int) < (ll : Int) := by omega
              obtain ⟨r, hr⟩ : ∃ r, rs[n]? = some r := ⟨rs[n]'(by rw [HL.out.1]; exact hi1), List.getElem?_eq_getElem _⟩
              obtain ⟨s, b1, e1, b2, e2, b3, e3, b4, e4, hM, g1, g2, hls, hbl⟩ := HR.out
              obtain ⟨-, g, off, rfl, hg, hcell⟩ := (HL.out.2.1.below hbl).at_ hr
              have l0 : wr.cell? ⟨g, off + n * 6, none⟩ = some (.int .i64 r.x) := hcell 0 _ rfl
              have l1 : wr.cell? ⟨g, off + n * 6 + 1, none⟩ = some (.int .i64 r.c.e) := hcell 1 _ rfl
              have l2 : wr.cell? ⟨g, off + n * 6 + 2, none⟩ = some (.int .i64 r.c.b) := hcell 2 _ rfl
              have l3 : wr.cell? ⟨g, off + n * 6 + 3, none⟩ = some (.int .i64 r.c.k) := hcell 3 _ rfl
              have l4 : wr.cell? ⟨g, off + n * 6 + 4, none⟩ = some (.slice r.a5 r.c.M.length r.q5) := hcell 4 _ rfl
              have l5 : wr.cell? ⟨g, off + n * 6 + 5, none⟩ = some (.slice r.a6 r.c.C.length r.q6) := hcell 5 _ rfl
              have m0 := cell_atD hM 0 (v := .int .i64 s.ep) rfl
              have m1 := cell_atD hM 1 (v := .int .i64 s.a.e) rfl
              have m2 := cell_atD hM 2 (v := .int .i64 s.a.b) rfl
              have m3 := cell_atD hM 3 (v := .int .i64 s.a.k) rfl
              have m4 := cell_atD hM 4 (v := .slice b1 s.a.M.length e1) rfl
              have m5 := cell_atD hM 5 (v := .slice b2 s.a.C.length e2) rfl
              have m6 := cell_atD hM 6 (v := .int .i64 s.n.e) rfl
              have m7 := cell_atD hM 7 (v := .int .i64 s.n.b) rfl
              have m8 := cell_atD hM 8 (v := .int .i64 s.n.k) rfl
              have m9 := cell_atD hM 9 (v := .slice b3 s.n.M.length e3) rfl
              have m10 := cell_atD hM 10 (v := .slice b4 s.n.C.length e4) rfl
              have m11 := cell_atD hM 11 (v := .int .i64 s.s0) rfl
              have m12 := cell_atD hM 12 (v := .int .i64 s.s1) rfl
              have hKW := lt_heap hM
              have cN := near12K r (n : Int) (by omega) K wr.drew hKW (CFat.below (HL.out.2.2.1 r (List.mem_of_getElem? hr)) (below_drew' hbl))
              unfold N12K at cN
              have HI := Lib.hid (And.intro hbl (And.intro hls (And.intro hi1 hi2)))
              clear hcell hg hr HR hbl hls hn5
              have g1 := g1.below (below_drew' (Below.refl _ _))
              have g2 := g2.below (below_drew' (Below.refl _ _))
              go_upto_region 16 with fail
              go_region_with (first | (go_at_call 7; (with_reducible refine Calls.mono cN ?_); rintro e wz ⟨y, d, a1, p1, a2, p2, rfl, hD, hbz⟩; replace hM := below_at hbz (lt_heap hM) hM; replace g1 := g1.below hbz; replace g2 := g2.below hbz; replace hbz := below_undrewB hbz; clear m0 m1 m2 m3 m4 m5 m6 m7 m8 m9 m10 m11 m12; have m0 := cell_atD hM 0 (v := .int .i64 s.ep) rfl; have m1 := cell_atD hM 1 (v := .int .i64 s.a.e) rfl; have m2 := cell_atD hM 2 (v := .int .i64 s.a.b) rfl; have m3 := cell_atD hM 3 (v := .int .i64 s.a.k) rfl; have m4 := cell_atD hM 4 (v := .slice b1 s.a.M.length e1) rfl; have m5 := cell_atD hM 5 (v := .slice b2 s.a.C.length e2) rfl; have m6 := cell_atD hM 6 (v := .int .i64 s.n.e) rfl; have m7 := cell_atD hM 7 (v := .int .i64 s.n.b) rfl; have m8 := cell_atD hM 8 (v := .int .i64 s.n.k) rfl; have m9 := cell_atD hM 9 (v := .slice b3 s.n.M.length e3) rfl; have m10 := cell_atD hM 10 (v := .slice b4 s.n.C.length e4) rfl; have m11 := cell_atD hM 11 (v := .int .i64 s.s0) rfl; have m12 := cell_atD hM 12 (v := .int .i64 s.s1) rfl) | (go_at_call 14; (have cDD := do12K s y d b1 b2 b3 b4 a1 a2 e1 e2 e3 e4 p1 p2 K _ g1 g2 hD HI.out.2.1); unfold D12K at cDD; (with_reducible refine Calls.mono cDD ?_); clear cDD; rintro e wy ⟨T, f1, n1, f2, n2, f3, n3, f4, n4, rfl, t1, t2, hlT, hby⟩; replace hM := below_at hby (lt_heap hM) hM; clear m0 m1 m2 m3 m4 m5 m6 m7 m8 m9 m10 m11 m12; have m0 := cell_atD hM 0 (v := .int .i64 s.ep) rfl; have m1 := cell_atD hM 1 (v := .int .i64 s.a.e) rfl; have m2 := cell_atD hM 2 (v := .int .i64 s.a.b) rfl; have m3 := cell_atD hM 3 (v := .int .i64 s.a.k) rfl; have m4 := cell_atD hM 4 (v := .slice b1 s.a.M.length e1) rfl; have m5 := cell_atD hM 5 (v := .slice b2 s.a.C.length e2) rfl; have m6 := cell_atD hM 6 (v := .int .i64 s.n.e) rfl; have m7 := cell_atD hM 7 (v := .int .i64 s.n.b) rfl; have m8 := cell_atD hM 8 (v := .int .i64 s.n.k) rfl; have m9 := cell_atD hM 9 (v := .slice b3 s.n.M.length e3) rfl; have m10 := cell_atD hM 10 (v := .slice b4 s.n.C.length e4) rfl; have m11 := cell_atD hM 11 (v := .int .i64 s.s0) rfl; have m12 := cell_atD hM 12 (v := .int .i64 s.s1) rfl; have hzf : ∀ o, wy.frozen? ⟨K, o, none⟩ = false := fun o => by simp [World.frozen?, hM]))
              all_goals
                have g1' : (wy.setCell ⟨K, 0, none⟩ (.int .i64 T.ep)).heap[K]? = some (.cells #[.int .i64 T.ep, .int .i64 s.a.e, .int .i64 s.a.b, .int .i64 s.a.k, .slice b1 s.a.M.length e1, .slice b2 s.a.C.length e2, .int .i64 s.n.e, .int .i64 s.n.b, .int .i64 s.n.k, .slice b3 s.n.M.length e3, .slice b4 s.n.C.length e4, .int .i64 s.s0, .int .i64 s.s1] 42) := heap_set_self hM 0 _
                have g2' : ((wy.setCell ⟨K, 0, none⟩ (.int .i64 T.ep)).setCell ⟨K, 1, none⟩ (.int .i64 T.a.e)).heap[K]? = some (.cells #[.int .i64 T.ep, .int .i64 T.a.e, .int .i64 s.a.b, .int .i64 s.a.k, .slice b1 s.a.M.length e1, .slice b2 s.a.C.length e2, .int .i64 s.n.e, .int .i64 s.n.b, .int .i64 s.n.k, .slice b3 s.n.M.length e3, .slice b4 s.n.C.length e4, .int .i64 s.s0, .int .i64 s.s1] 42) := heap_set_self g1' 1 _
                have g3' : (((wy.setCell ⟨K, 0, none⟩ (.int .i64 T.ep)).setCell ⟨K, 1, none⟩ (.int .i64 T.a.e)).setCell ⟨K, 2, none⟩ (.int .i64 T.a.b)).heap[K]? = some (.cells #[.int .i64 T.ep, .int .i64 T.a.e, .int .i64 T.a.b, .int .i64 s.a.k, .slice b1 s.a.M.length e1, .slice b2 s.a.C.length e2, .int .i64 s.n.e, .int .i64 s.n.b, .int .i64 s.n.k, .slice b3 s.n.M.length e3, .slice b4 s.n.C.length e4, .int .i64 s.s0, .int .i64 s.s1] 42) := heap_set_self g2' 2 _
                have g4' : ((((wy.setCell ⟨K, 0, none⟩ (.int .i64 T.ep)).setCell ⟨K, 1, none⟩ (.int .i64 T.a.e)).setCell ⟨K, 2, none⟩ (.int .i64 T.a.b)).setCell ⟨K, 3, none⟩ (.int .i64 T.a.k)).heap[K]? = some (.cells #[.int .i64 T.ep, .int .i64 T.a.e, .int .i64 T.a.b, .int .i64 T.a.k, .slice b1 s.a.M.length e1, .slice b2 s.a.C.length e2, .int .i64 s.n.e, .int .i64 s.n.b, .int .i64 s.n.k, .slice b3 s.n.M.length e3, .slice b4 s.n.C.length e4, .int .i64 s.s0, .int .i64 s.s1] 42) := heap_set_self g3' 3 _
                have g5' : (((((wy.setCell ⟨K, 0, none⟩ (.int .i64 T.ep)).setCell ⟨K, 1, none⟩ (.int .i64 T.a.e)).setCell ⟨K, 2, none⟩ (.int .i64 T.a.b)).setCell ⟨K, 3, none⟩ (.int .i64 T.a.k)).setCell ⟨K, 4, none⟩ (.slice f1 T.a.M.length n1)).heap[K]? = some (.cells #[.int .i64 T.ep, .int .i64 T.a.e, .int .i64 T.a.b, .int .i64 T.a.k, .slice f1 T.a.M.length n1, .slice b2 s.a.C.length e2, .int .i64 s.n.e, .int .i64 s.n.b, .int .i64 s.n.k, .slice b3 s.n.M.length e3, .slice b4 s.n.C.length e4, .int .i64 s.s0, .int .i64 s.s1] 42) := heap_set_self g4' 4 _
                have g6' : ((((((wy.setCell ⟨K, 0, none⟩ (.int .i64 T.ep)).setCell ⟨K, 1, none⟩ (.int .i64 T.a.e)).setCell ⟨K, 2, none⟩ (.int .i64 T.a.b)).setCell ⟨K, 3, none⟩ (.int .i64 T.a.k)).setCell ⟨K, 4, none⟩ (.slice f1 T.a.M.length n1)).setCell ⟨K, 5, none⟩ (.slice f2 T.a.C.length n2)).heap[K]? = some (.cells #[.int .i64 T.ep, .int .i64 T.a.e, .int .i64 T.a.b, .int .i64 T.a.k, .slice f1 T.a.M.length n1, .slice f2 T.a.C.length n2, .int .i64 s.n.e, .int .i64 s.n.b, .int .i64 s.n.k, .slice b3 s.n.M.length e3, .slice b4 s.n.C.length e4, .int .i64 s.s0, .int .i64 s.s1] 42) := heap_set_self g5' 5 _
                have g7' : (((((((wy.setCell ⟨K, 0, none⟩ (.int .i64 T.ep)).setCell ⟨K, 1, none⟩ (.int .i64 T.a.e)).setCell ⟨K, 2, none⟩ (.int .i64 T.a.b)).setCell ⟨K, 3, none⟩ (.int .i64 T.a.k)).setCell ⟨K, 4, none⟩ (.slice f1 T.a.M.length n1)).setCell ⟨K, 5, none⟩ (.slice f2 T.a.C.length n2)).setCell ⟨K, 6, none⟩ (.int .i64 T.n.e)).heap[K]? = some (.cells #[.int .i64 T.ep, .int .i64 T.a.e, .int .i64 T.a.b, .int .i64 T.a.k, .slice f1 T.a.M.length n1, .slice f2 T.a.C.length n2, .int .i64 T.n.e, .int .i64 s.n.b, .int .i64 s.n.k, .slice b3 s.n.M.length e3, .slice b4 s.n.C.length e4, .int .i64 s.s0, .int .i64 s.s1] 42) := heap_set_self g6' 6 _
                have g8' : ((((((((wy.setCell ⟨K, 0, none⟩ (.int .i64 T.ep)).setCell ⟨K, 1, none⟩ (.int .i64 T.a.e)).setCell ⟨K, 2, none⟩ (.int .i64 T.a.b)).setCell ⟨K, 3, none⟩ (.int .i64 T.a.k)).setCell ⟨K, 4, none⟩ (.slice f1 T.a.M.length n1)).setCell ⟨K, 5, none⟩ (.slice f2 T.a.C.length n2)).setCell ⟨K, 6, none⟩ (.int .i64 T.n.e)).setCell ⟨K, 7, none⟩ (.int .i64 T.n.b)).heap[K]? = some (.cells #[.int .i64 T.ep, .int .i64 T.a.e, .int .i64 T.a.b, .int .i64 T.a.k, .slice f1 T.a.M.length n1, .slice f2 T.a.C.length n2, .int .i64 T.n.e, .int .i64 T.n.b, .int .i64 s.n.k, .slice b3 s.n.M.length e3, .slice b4 s.n.C.length e4, .int .i64 s.s0, .int .i64 s.s1] 42) := heap_set_self g7' 7 _
                have g9' : (((((((((wy.setCell ⟨K, 0, none⟩ (.int .i64 T.ep)).setCell ⟨K, 1, none⟩ (.int .i64 T.a.e)).setCell ⟨K, 2, none⟩ (.int .i64 T.a.b)).setCell ⟨K, 3, none⟩ (.int .i64 T.a.k)).setCell ⟨K, 4, none⟩ (.slice f1 T.a.M.length n1)).setCell ⟨K, 5, none⟩ (.slice f2 T.a.C.length n2)).setCell ⟨K, 6, none⟩ (.int .i64 T.n.e)).setCell ⟨K, 7, none⟩ (.int .i64 T.n.b)).setCell ⟨K, 8, none⟩ (.int .i64 T.n.k)).heap[K]? = some (.cells #[.int .i64 T.ep, .int .i64 T.a.e, .int .i64 T.a.b, .int .i64 T.a.k, .slice f1 T.a.M.length n1, .slice f2 T.a.C.length n2, .int .i64 T.n.e, .int .i64 T.n.b, .int .i64 T.n.k, .slice b3 s.n.M.length e3, .slice b4 s.n.C.length e4, .int .i64 s.s0, .int .i64 s.s1] 42) := heap_set_self g8' 8 _
                have g10' : ((((((((((wy.setCell ⟨K, 0, none⟩ (.int .i64 T.ep)).setCell ⟨K, 1, none⟩ (.int .i64 T.a.e)).setCell ⟨K, 2, none⟩ (.int .i64 T.a.b)).setCell ⟨K, 3, none⟩ (.int .i64 T.a.k)).setCell ⟨K, 4, none⟩ (.slice f1 T.a.M.length n1)).setCell ⟨K, 5, none⟩ (.slice f2 T.a.C.length n2)).setCell ⟨K, 6, none⟩ (.int .i64 T.n.e)).setCell ⟨K, 7, none⟩ (.int .i64 T.n.b)).setCell ⟨K, 8, none⟩ (.int .i64 T.n.k)).setCell ⟨K, 9, none⟩ (.slice f3 T.n.M.length n3)).heap[K]? = some (.cells #[.int .i64 T.ep, .int .i64 T.a.e, .int .i64 T.a.b, .int .i64 T.a.k, .slice f1 T.a.M.length n1, .slice f2 T.a.C.length n2, .int .i64 T.n.e, .int .i64 T.n.b, .int .i64 T.n.k, .slice f3 T.n.M.length n3, .slice b4 s.n.C.length e4, .int .i64 s.s0, .int .i64 s.s1] 42) := heap_set_self g9' 9 _
                have g11' : (((((((((((wy.setCell ⟨K, 0, none⟩ (.int .i64 T.ep)).setCell ⟨K, 1, none⟩ (.int .i64 T.a.e)).setCell ⟨K, 2, none⟩ (.int .i64 T.a.b)).setCell ⟨K, 3, none⟩ (.int .i64 T.a.k)).setCell ⟨K, 4, none⟩ (.slice f1 T.a.M.length n1)).setCell ⟨K, 5, none⟩ (.slice f2 T.a.C.length n2)).setCell ⟨K, 6, none⟩ (.int .i64 T.n.e)).setCell ⟨K, 7, none⟩ (.int .i64 T.n.b)).setCell ⟨K, 8, none⟩ (.int .i64 T.n.k)).setCell ⟨K, 9, none⟩ (.slice f3 T.n.M.length n3)).setCell ⟨K, 10, none⟩ (.slice f4 T.n.C.length n4)).heap[K]? = some (.cells #[.int .i64 T.ep, .int .i64 T.a.e, .int .i64 T.a.b, .int .i64 T.a.k, .slice f1 T.a.M.length n1, .slice f2 T.a.C.length n2, .int .i64 T.n.e, .int .i64 T.n.b, .int .i64 T.n.k, .slice f3 T.n.M.length n3, .slice f4 T.n.C.length n4, .int .i64 s.s0, .int .i64 s.s1] 42) := heap_set_self g10' 10 _
                have g12' : ((((((((((((wy.setCell ⟨K, 0, none⟩ (.int .i64 T.ep)).setCell ⟨K, 1, none⟩ (.int .i64 T.a.e)).setCell ⟨K, 2, none⟩ (.int .i64 T.a.b)).setCell ⟨K, 3, none⟩ (.int .i64 T.a.k)).setCell ⟨K, 4, none⟩ (.slice f1 T.a.M.length n1)).setCell ⟨K, 5, none⟩ (.slice f2 T.a.C.length n2)).setCell ⟨K, 6, none⟩ (.int .i64 T.n.e)).setCell ⟨K, 7, none⟩ (.int .i64 T.n.b)).setCell ⟨K, 8, none⟩ (.int .i64 T.n.k)).setCell ⟨K, 9, none⟩ (.slice f3 T.n.M.length n3)).setCell ⟨K, 10, none⟩ (.slice f4 T.n.C.length n4)).setCell ⟨K, 11, none⟩ (.int .i64 T.s0)).heap[K]? = some (.cells #[.int .i64 T.ep, .int .i64 T.a.e, .int .i64 T.a.b, .int .i64 T.a.k, .slice f1 T.a.M.length n1, .slice f2 T.a.C.length n2, .int .i64 T.n.e, .int .i64 T.n.b, .int .i64 T.n.k, .slice f3 T.n.M.length n3, .slice f4 T.n.C.length n4, .int .i64 T.s0, .int .i64 s.s1] 42) := heap_set_self g11' 11 _
                have g13' : (((((((((((((wy.setCell ⟨K, 0, none⟩ (.int .i64 T.ep)).setCell ⟨K, 1, none⟩ (.int .i64 T.a.e)).setCell ⟨K, 2, none⟩ (.int .i64 T.a.b)).setCell ⟨K, 3, none⟩ (.int .i64 T.a.k)).setCell ⟨K, 4, none⟩ (.slice f1 T.a.M.length n1)).setCell ⟨K, 5, none⟩ (.slice f2 T.a.C.length n2)).setCell ⟨K, 6, none⟩ (.int .i64 T.n.e)).setCell ⟨K, 7, none⟩ (.int .i64 T.n.b)).setCell ⟨K, 8, none⟩ (.int .i64 T.n.k)).setCell ⟨K, 9, none⟩ (.slice f3 T.n.M.length n3)).setCell ⟨K, 10, none⟩ (.slice f4 T.n.C.length n4)).setCell ⟨K, 11, none⟩ (.int .i64 T.s0)).setCell ⟨K, 12, none⟩ (.int .i64 T.s1)).heap[K]? = some (.cells #[.int .i64 T.ep, .int .i64 T.a.e, .int .i64 T.a.b, .int .i64 T.a.k, .slice f1 T.a.M.length n1, .slice f2 T.a.C.length n2, .int .i64 T.n.e, .int .i64 T.n.b, .int .i64 T.n.k, .slice f3 T.n.M.length n3, .slice f4 T.n.C.length n4, .int .i64 T.s0, .int .i64 T.s1] 42) := heap_set_self g12' 12 _
                have gO' : Only (K) wy (((((((((((((wy.setCell ⟨K, 0, none⟩ (.int .i64 T.ep)).setCell ⟨K, 1, none⟩ (.int .i64 T.a.e)).setCell ⟨K, 2, none⟩ (.int .i64 T.a.b)).setCell ⟨K, 3, none⟩ (.int .i64 T.a.k)).setCell ⟨K, 4, none⟩ (.slice f1 T.a.M.length n1)).setCell ⟨K, 5, none⟩ (.slice f2 T.a.C.length n2)).setCell ⟨K, 6, none⟩ (.int .i64 T.n.e)).setCell ⟨K, 7, none⟩ (.int .i64 T.n.b)).setCell ⟨K, 8, none⟩ (.int .i64 T.n.k)).setCell ⟨K, 9, none⟩ (.slice f3 T.n.M.length n3)).setCell ⟨K, 10, none⟩ (.slice f4 T.n.C.length n4)).setCell ⟨K, 11, none⟩ (.int .i64 T.s0)).setCell ⟨K, 12, none⟩ (.int .i64 T.s1)) := (((((((((((((Only.refl _ _).set 0 _).set 1 _).set 2 _).set 3 _).set 4 _).set 5 _).set 6 _).set 7 _).set 8 _).set 9 _).set 10 _).set 11 _).set 12 _
                have HN := Lib.hid (show SRel K w (((((((((((((wy.setCell ⟨K, 0, none⟩ (.int .i64 T.ep)).setCell ⟨K, 1, none⟩ (.int .i64 T.a.e)).setCell ⟨K, 2, none⟩ (.int .i64 T.a.b)).setCell ⟨K, 3, none⟩ (.int .i64 T.a.k)).setCell ⟨K, 4, none⟩ (.slice f1 T.a.M.length n1)).setCell ⟨K, 5, none⟩ (.slice f2 T.a.C.length n2)).setCell ⟨K, 6, none⟩ (.int .i64 T.n.e)).setCell ⟨K, 7, none⟩ (.int .i64 T.n.b)).setCell ⟨K, 8, none⟩ (.int .i64 T.n.k)).setCell ⟨K, 9, none⟩ (.slice f3 T.n.M.length n3)).setCell ⟨K, 10, none⟩ (.slice f4 T.n.C.length n4)).setCell ⟨K, 11, none⟩ (.int .i64 T.s0)).setCell ⟨K, 12, none⟩ (.int .i64 T.s1)) from
                  ⟨T, f1, n1, f2, n2, f3, n3, f4, n4, g13', t1.over gO', t2.over gO', hlT, ((HI.out.1.trans (hbz.mono HI.out.1.size)).trans (hby.mono (Nat.le_trans HI.out.1.size hbz.size))).trans (gO'.below HKl.out (Nat.le_trans (Nat.le_trans HI.out.1.size hbz.size) hby.size))⟩)
                clear g1' g2' g3' g4' g5' g6' g7' g8' g9' g10' g11' g12' g13' gO' m0 m1 m2 m3 m4 m5 m6 m7 m8 m9 m10 m11 m12 hzf t1 t2 hlT hbz hby hM
                go_wp2_with fail
                go_roundw
                case rel => exact ⟨n + 1, by have := HI.out.2.2.2; omega, by simp, HN⟩
                case measure => exact meas_5 HI.out.2.2.2
            · have hout : ¬ ((n : Int) < (ll : Int)) ∨ ((n : Int) < (ll : Int) ∧ ¬ ((n : Int) < 5)) := by omega
              rcases hout with ho | ⟨ho, ho2⟩
              all_goals
                go_wp2_with fail
                go_meet
                exact HR
        case rest =>
          obtain ⟨W7, hW7⟩ : ∃ W, W = wc := ⟨_, rfl⟩
          subst hW7
          obtain ⟨s, b1, e1, b2, e2, b3, e3, b4, e4, hM, g1, g2, hls, hbl⟩ := hcut.out
          have m0 := cell_atD hM 0 (v := .int .i64 s.ep) rfl
          have m1 := cell_atD hM 1 (v := .int .i64 s.a.e) rfl
          have m2 := cell_atD hM 2 (v := .int .i64 s.a.b) rfl
          have m3 := cell_atD hM 3 (v := .int .i64 s.a.k) rfl
          have m4 := cell_atD hM 4 (v := .slice b1 s.a.M.length e1) rfl
          have m5 := cell_atD hM 5 (v := .slice b2 s.a.C.length e2) rfl
          have m6 := cell_atD hM 6 (v := .int .i64 s.n.e) rfl
          have m7 := cell_atD hM 7 (v := .int .i64 s.n.b) rfl
          have m8 := cell_atD hM 8 (v := .int .i64 s.n.k) rfl
          have m9 := cell_atD hM 9 (v := .slice b3 s.n.M.length e3) rfl
          have m10 := cell_atD hM 10 (v := .slice b4 s.n.C.length e4) rfl
          have m11 := cell_atD hM 11 (v := .int .i64 s.s0) rfl
          have m12 := cell_atD hM 12 (v := .int .i64 s.s1) rfl
          have cp := rputS s b1 b2 b3 b4 e1 e2 e3 e4 W7 g1.cf g2.cf hls
          have hPl := putS_len hls
          obtain ⟨P2, hPP⟩ : ∃ P : ByteArray, (⟨(putS s).toArray⟩ : ByteArray) = P := ⟨_, rfl⟩
          have hPs : P2.size ≤ 100000 := by
            rw [← hPP]
            show (putS s).toArray.size ≤ 100000
            rw [List.size_toArray]
            exact hPl
          rw [hPP] at cp
          have HB7 := Lib.hid hbl
          clear hPP hPl hM g1 g2 hls hbl hcut HS0 HKl
          go_wp2_with fail
          refine Calls.mono cp ?_
          rintro ev w8 ⟨rfl, hb8⟩
          have HB8 := Lib.hid (HB7.out.trans (hb8.mono HB7.out.size))
          clear cp hb8 HB7 m0 m1 m2 m3 m4 m5 m6 m7 m8 m9 m10 m11 m12
          have hdn2 := tmod_in ((D.size : Int) * 11) (P2.size : Int) (by omega) (by omega)
          obtain ⟨k2, hk2⟩ : ∃ k2, ((D.size : Int) * 11).tmod ((P2.size : Int) + 1) = k2 := ⟨_, rfl⟩
          rw [hk2] at hdn2
          obtain ⟨hk20, hk21⟩ := hdn2
          have hp20 : (0 : Int) ≤ (P2.size : Int) := by omega
          have hp21 : (P2.size : Int) ≤ 100000 := by omega
          obtain ⟨u2, hu2'⟩ : ∃ u2, min (D.size : Int) 4 = u2 := ⟨_, rfl⟩
          have hu21 : u2 ≤ 4 := by omega
          have hu22 : u2 ≤ (D.size : Int) := by omega
          have hu20 : 0 ≤ u2 := by omega
          have hbit2 : bits .and .i64 (D.size : Int) 1 = (D.size : Int) % 2 := mask_mod (D.size : Int) 1 1 (by decide) (by decide)
          obtain ⟨bb2, hbb2⟩ : ∃ bb2, (D.size : Int) % 2 = bb2 := ⟨_, rfl⟩
          have hb20 : 0 ≤ bb2 := by omega
          have hb21 : bb2 ≤ 1 := by omega
          rw [hbb2] at hbit2
          obtain ⟨m2, hm2⟩ : ∃ m2, min (k2 + bb2) (P2.size : Int) = m2 := ⟨_, rfl⟩
          have hm200 : 0 ≤ m2 := by omega
          have hm201 : m2 ≤ (P2.size : Int) := by omega
          have hn20 : ¬ (P2.size : Int) + 1 = 0 := by omega
          clear hbb2
          go_upto_region 19 with fail
          go_cut [16] from 115 to 134 (fun sv wx => CutB w sv wx)
          case first =>
            have hww2 : IntKind.i64.wrap (k2 + bb2) = k2 + bb2 := IntWalk.i64_in _ (by omega)
            go_quiet (fail)
            go_wp2_with fail
            go_meet
            exact ⟨_, rfl, by { clear hww2; simp only [ByteArray.size_append, ByteArray.size_extract]; omega }, below_drewN' HB8.out _⟩
          case rest =>
            obtain ⟨B2, rfl, hBs, hB5⟩ := hcut
            clear hk2 hk20 hk21 hp20 hp21 hu2' hu21 hu22 hu20 hbit2 hb20 hb21 hm2 hm200 hm201 hn20
            obtain ⟨W9, hW9⟩ : ∃ W, W = wc := ⟨_, rfl⟩
            subst hW9
            obtain ⟨S2, rfl⟩ : ∃ S : List UInt8, B2 = ⟨S.toArray⟩ := ⟨B2.data.toList, str_ext (by simp)⟩
            have hSl : S2.length ≤ 1000000 := by
              have : (⟨S2.toArray⟩ : ByteArray).size = S2.length := List.size_toArray
              omega
            have HB9 := Lib.hid hB5
            have cf := from_any ⟨S2.toArray⟩ W9
            have hs6 : Src (W9.alloc (.cells #[.string ⟨S2.toArray⟩, .int .i64 0] 109)) W9.heap.size ⟨S2, 0⟩ := heap_alloc_self _ _
            have hb6 := (Below.refl W9.heap.size W9).alloc (Nat.le_refl _) (.cells #[.string ⟨S2.toArray⟩, .int .i64 0] 109)
            have cz := dstateG ⟨S2, 0⟩ W9.heap.size _ hs6
            have ct := fun w => stakeR ⟨S2, 0⟩ w (.inl rfl) hSl
            unfold STakeP at cz
            unfold RST at ct
            obtain ⟨Q1, hQ1⟩ : ∃ S1, (⟨S2, 0⟩ : RS).staS = S1 := ⟨_, rfl⟩
            obtain ⟨FE, hFE⟩ : ∃ t, (⟨S2, 0⟩ : RS).staE = t := ⟨_, rfl⟩
            obtain ⟨FA, hFA⟩ : ∃ t, (⟨S2, 0⟩ : RS).staA = t := ⟨_, rfl⟩
            obtain ⟨FN, hFN⟩ : ∃ t, (⟨S2, 0⟩ : RS).staN = t := ⟨_, rfl⟩
            obtain ⟨F0, hF0⟩ : ∃ t, (⟨S2, 0⟩ : RS).sta0 = t := ⟨_, rfl⟩
            obtain ⟨F1, hF1⟩ : ∃ t, (⟨S2, 0⟩ : RS).sta1 = t := ⟨_, rfl⟩
            rw [hQ1, hFE, hFA, hFN, hF0, hF1] at cz
            simp only [hQ1, hFE, hFA, hFN, hF0, hF1] at ct
            have CT := Lib.hid ct
            have H6 := Lib.hid (And.intro hs6 (And.intro hb6 (show W9.heap.size < (W9.alloc (.cells #[.string ⟨S2.toArray⟩, .int .i64 0] 109)).heap.size by simp)))
            clear hQ1 hFE hFA hFN hF0 hF1 ct hSl hBs hB5 hs6 hb6 hPs HB8
            go_wp2_with fail
            refine Calls.mono cf ?_
            rintro ev w6' ⟨rfl, rfl⟩
            clear cf
            go_upto_region 21 with fail
            generalize W9.alloc (.cells #[.string ⟨S2.toArray⟩, .int .i64 0] 109) = v6 at *
            go_wp2_with fail
            refine Calls.mono cz ?_
            rintro ev v7 ⟨a2, p2, a3, p3, a4, p4, a5, p5, rfl, hA7, hN7, s7, t7⟩
            have hP := heap_alloc_self v7 (.cells #[.int .i64 FE, .int .i64 FA.e, .int .i64 FA.b, .int .i64 FA.k, .slice a2 FA.M.length p2, .slice a3 FA.C.length p3, .int .i64 FN.e, .int .i64 FN.b, .int .i64 FN.k, .slice a4 FN.M.length p4, .slice a5 FN.C.length p5, .int .i64 F0, .int .i64 F1] 42)
            have hb78 := (Below.refl v7.heap.size v7).alloc (Nat.le_refl _) (.cells #[.int .i64 FE, .int .i64 FA.e, .int .i64 FA.b, .int .i64 FA.k, .slice a2 FA.M.length p2, .slice a3 FA.C.length p3, .int .i64 FN.e, .int .i64 FN.b, .int .i64 FN.k, .slice a4 FN.M.length p4, .slice a5 FN.C.length p5, .int .i64 F0, .int .i64 F1] 42)
            have H8 := Lib.hid (And.intro hP (And.intro (CFat.below hA7.at_ hb78) (And.intro (CFat.below hN7.at_ hb78) (And.intro (below_at hb78 (lt_heap s7) s7) (And.intro (HB9.out.trans (((H6.out.2.1.trans (t7.below (B := W9.heap.size) (Nat.le_refl _) H6.out.2.1.size)).trans (hb78.mono (Nat.le_trans H6.out.2.1.size t7.size))).mono HB9.out.size)) (show W9.heap.size < v7.heap.size from lt_heap s7))))))
            clear hP hb78 hA7 hN7 s7 t7 cz H6 HB9
            go_upto_region 22 with fail
            generalize v7.alloc (.cells #[.int .i64 FE, .int .i64 FA.e, .int .i64 FA.b, .int .i64 FA.k, .slice a2 FA.M.length p2, .slice a3 FA.C.length p3, .int .i64 FN.e, .int .i64 FN.b, .int .i64 FN.k, .slice a4 FN.M.length p4, .slice a5 FN.C.length p5, .int .i64 F0, .int .i64 F1] 42) = v8 at *
            obtain ⟨Ya, hYa⟩ : ∃ X, v7.heap.size = X := ⟨_, rfl⟩
            rw [hYa] at H8
            try rw [hYa]
            clear hYa
            obtain ⟨Ys, hYs⟩ : ∃ X, W9.heap.size = X := ⟨_, rfl⟩
            rw [hYs] at H8
            try rw [hYs]
            clear hYs
            have ct := CT.out v8
            unfold rC at ct
            go_wp2_with fail
            refine Calls.mono ct ?_
            rintro ev v9 ⟨d2, r2, d3, r3, d4, r4, d5, r5, rfl, hA9, hN9, hb9⟩
            obtain ⟨hR, hZ⟩ := two_blocks v9 (.cells #[.string ⟨Q1.s.toArray⟩, .int .i64 Q1.e] 35) (.cells #[.int .i64 FE, .int .i64 FA.e, .int .i64 FA.b, .int .i64 FA.k, .slice d2 FA.M.length r2, .slice d3 FA.C.length r3, .int .i64 FN.e, .int .i64 FN.b, .int .i64 FN.k, .slice d4 FN.M.length r4, .slice d5 FN.C.length r5, .int .i64 F0, .int .i64 F1] 42)
            have hb9A : Below v9.heap.size v9 ((v9.alloc (.cells #[.string ⟨Q1.s.toArray⟩, .int .i64 Q1.e] 35)).alloc (.cells #[.int .i64 FE, .int .i64 FA.e, .int .i64 FA.b, .int .i64 FA.k, .slice d2 FA.M.length r2, .slice d3 FA.C.length r3, .int .i64 FN.e, .int .i64 FN.b, .int .i64 FN.k, .slice d4 FN.M.length r4, .slice d5 FN.C.length r5, .int .i64 F0, .int .i64 F1] 42)) := ((Below.refl _ _).alloc (Nat.le_refl _) _).alloc (by simp) _
            have hb8A := hb9.trans (hb9A.mono hb9.size)
            have HA := Lib.hid (And.intro hR (And.intro hZ (And.intro (CFat.below hA9.at_ hb9A) (And.intro (CFat.below hN9.at_ hb9A) (And.intro (below_at hb8A (lt_heap H8.out.1) H8.out.1) (And.intro (CFat.below H8.out.2.1 hb8A) (And.intro (CFat.below H8.out.2.2.1 hb8A) (And.intro (below_at hb8A (lt_heap H8.out.2.2.2.1) H8.out.2.2.2.1) (H8.out.2.2.2.2.1.trans (hb8A.mono H8.out.2.2.2.2.1.size))))))))))
            clear hR hZ hb9A hb8A hA9 hN9 hb9 H8 ct CT
            go_upto_region 23 with fail
            generalize (v9.alloc (.cells #[.string ⟨Q1.s.toArray⟩, .int .i64 Q1.e] 35)).alloc (.cells #[.int .i64 FE, .int .i64 FA.e, .int .i64 FA.b, .int .i64 FA.k, .slice d2 FA.M.length r2, .slice d3 FA.C.length r3, .int .i64 FN.e, .int .i64 FN.b, .int .i64 FN.k, .slice d4 FN.M.length r4, .slice d5 FN.C.length r5, .int .i64 F0, .int .i64 F1] 42) = vA at *
            obtain ⟨V2, hV⟩ : ∃ X, v9.heap.size = X := ⟨_, rfl⟩
            rw [hV] at HA
            try rw [hV]
            clear hV
            obtain ⟨v0, v1, -⟩ := two_cellsR HA.out.1
            have x0 := cell_atD HA.out.2.2.2.2.1 0 (v := .int .i64 FE) rfl
            have x1 := cell_atD HA.out.2.2.2.2.1 1 (v := .int .i64 FA.e) rfl
            have x2 := cell_atD HA.out.2.2.2.2.1 2 (v := .int .i64 FA.b) rfl
            have x3 := cell_atD HA.out.2.2.2.2.1 3 (v := .int .i64 FA.k) rfl
            have x4 := cell_atD HA.out.2.2.2.2.1 4 (v := .slice a2 FA.M.length p2) rfl
            have x5 := cell_atD HA.out.2.2.2.2.1 5 (v := .slice a3 FA.C.length p3) rfl
            have x6 := cell_atD HA.out.2.2.2.2.1 6 (v := .int .i64 FN.e) rfl
            have x7 := cell_atD HA.out.2.2.2.2.1 7 (v := .int .i64 FN.b) rfl
            have x8 := cell_atD HA.out.2.2.2.2.1 8 (v := .int .i64 FN.k) rfl
            have x9 := cell_atD HA.out.2.2.2.2.1 9 (v := .slice a4 FN.M.length p4) rfl
            have x10 := cell_atD HA.out.2.2.2.2.1 10 (v := .slice a5 FN.C.length p5) rfl
            have x11 := cell_atD HA.out.2.2.2.2.1 11 (v := .int .i64 F0) rfl
            have x12 := cell_atD HA.out.2.2.2.2.1 12 (v := .int .i64 F1) rfl
            have y0 := cell_atD HA.out.2.1 0 (v := .int .i64 FE) rfl
            have y1 := cell_atD HA.out.2.1 1 (v := .int .i64 FA.e) rfl
            have y2 := cell_atD HA.out.2.1 2 (v := .int .i64 FA.b) rfl
            have y3 := cell_atD HA.out.2.1 3 (v := .int .i64 FA.k) rfl
            have y4 := cell_atD HA.out.2.1 4 (v := .slice d2 FA.M.length r2) rfl
            have y5 := cell_atD HA.out.2.1 5 (v := .slice d3 FA.C.length r3) rfl
            have y6 := cell_atD HA.out.2.1 6 (v := .int .i64 FN.e) rfl
            have y7 := cell_atD HA.out.2.1 7 (v := .int .i64 FN.b) rfl
            have y8 := cell_atD HA.out.2.1 8 (v := .int .i64 FN.k) rfl
            have y9 := cell_atD HA.out.2.1 9 (v := .slice d4 FN.M.length r4) rfl
            have y10 := cell_atD HA.out.2.1 10 (v := .slice d5 FN.C.length r5) rfl
            have y11 := cell_atD HA.out.2.1 11 (v := .int .i64 F0) rfl
            have y12 := cell_atD HA.out.2.1 12 (v := .int .i64 F1) rfl
            obtain ⟨N, hN⟩ : ∃ N, vA.heap.size = N := ⟨_, rfl⟩
            have hNW : N ≤ vA.heap.size := by omega
            have l1 : V2 < N := by rw [← hN]; exact lt_heap HA.out.1
            have l2 : V2 + 1 < N := by rw [← hN]; exact lt_heap HA.out.2.1
            have l3 : Ya < N := by rw [← hN]; exact lt_heap HA.out.2.2.2.2.1
            have m1 : ∀ w', N ≤ w'.heap.size ∧ Below N vA w' → Calls Try.prog 18 #[] w' fun e w'' => e = .returned (.bool true) ∧ Stays N w' w'' := fun w' h => (awake12 w').mono fun e w'' ⟨he, hw⟩ => ⟨he, stays_of h.1 hw⟩
            have m2 : ∀ w', N ≤ w'.heap.size ∧ Below N vA w' → Calls Try.prog 19 #[.agg #[.int .i64 FE, .int .i64 FA.e, .int .i64 FA.b, .int .i64 FA.k, .slice a2 FA.M.length p2, .slice a3 FA.C.length p3, .int .i64 FN.e, .int .i64 FN.b, .int .i64 FN.k, .slice a4 FN.M.length p4, .slice a5 FN.C.length p5, .int .i64 F0, .int .i64 F1], .agg #[.int .i64 FE, .int .i64 FA.e, .int .i64 FA.b, .int .i64 FA.k, .slice d2 FA.M.length r2, .slice d3 FA.C.length r3, .int .i64 FN.e, .int .i64 FN.b, .int .i64 FN.k, .slice d4 FN.M.length r4, .slice d5 FN.C.length r5, .int .i64 F0, .int .i64 F1]] w' fun e w'' => e = .returned (.bool true) ∧ Stays N w' w'' := fun w' h =>
              (rsst ⟨FE, F0, F1, FA, FN⟩ a2 a3 a4 a5 d2 d3 d4 d5 p2 p3 p4 p5 r2 r3 r4 r5 w' (CFat.below HA.out.2.2.2.2.2.1 (by rw [hN]; exact h.2)) (CFat.below HA.out.2.2.2.2.2.2.1 (by rw [hN]; exact h.2)) (CFat.below HA.out.2.2.1 (by rw [hN]; exact h.2)) (CFat.below HA.out.2.2.2.1 (by rw [hN]; exact h.2))).mono fun e w'' ⟨he, hw⟩ => ⟨he, stays_of h.1 hw⟩
            have m3 : ∀ w', N ≤ w'.heap.size ∧ Below N vA w' → Calls Try.prog 13 #[.pointer (some ⟨Ys, 0, none⟩)] w' fun e w'' => e = .returned (.int .i64 Q1.e) ∧ Stays N w' w'' := by
              intro w' h
              have hs : Src w' Ys Q1 := below_at h.2 (by rw [← hN]; exact lt_heap HA.out.2.2.2.2.2.2.2.1) HA.out.2.2.2.2.2.2.2.1
              exact (err_some Ys Q1.e w' (Src.c1 hs)).mono fun e w'' ⟨he, hw⟩ => ⟨he, by subst hw; exact stays_of h.1 (Below.refl _ _)⟩
            have HN := Lib.hid hN
            clear hN
            go_region_held3 (fun w' => N ≤ w'.heap.size ∧ Below N vA w' ∧ ∀ b o, b < N → w'.cell? ⟨b, o, none⟩ = vA.cell? ⟨b, o, none⟩) (first | with_reducible exact keeps_next (by assumption) (by assumption) | exact keepsV_start hNW) (first | (go_at_call 13; (with_reducible refine Calls.mono (m3 _ ?hk) ?_); (case hk => exact keepsV_two (by assumption)); rintro ev wz ⟨rfl, hzz⟩) | (go_at_call 18; (with_reducible refine Calls.mono (m1 _ ?hk) ?_); (case hk => exact keepsV_two (by assumption)); rintro ev wz ⟨rfl, hzz⟩) | (go_at_call 19; (with_reducible refine Calls.mono (m2 _ ?hk) ?_); (case hk => exact keepsV_two (by assumption)); rintro ev wz ⟨rfl, hzz⟩))
            all_goals
              rename_i hfin
              have HF := Lib.hid (HA.out.2.2.2.2.2.2.2.2.trans (hfin.2.1.mono (by have := HA.out.2.2.2.2.2.2.2.2.size; have := HN.out; omega)))
              clear hfin m1 m2 m3
              go_wp2_with fail
              go_ret
              exact ⟨by simp, HF.out⟩
end Go.Proofs.Ytjaaddjbmimjoaa
