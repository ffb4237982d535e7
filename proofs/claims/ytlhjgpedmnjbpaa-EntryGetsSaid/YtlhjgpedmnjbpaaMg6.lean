/-
  Several texts, laid together.
-/
import Derived.Test.YtlhjgpedmnjbpaaMg5
import Derived.Test.YtlhjgpedmnjbpaaMg1
import Derived.WalkSpells
import Derived.WalkLawsBesides
import Derived.BigQuiet
import Derived.Deep.QuietTactic
import Derived.Test.YtlhjgpedmnjbpaaShelf
/-
  The reference's configurations, commands and entries: which are the same, and which may be.
-/

namespace Go.Proofs.Ytlhjgpedmnjbpaa
open Go.RowKit
set_option linter.unusedVariables false
set_option linter.unusedSimpArgs false

theorem take_snoc (l : List Int) (k : Nat) (hk : k < l.length) : l.take (k + 1) = l.take k ++ [l.getD k 0] := by
  have e : l.getD k 0 = l[k] := by simp [List.getD, hk]
  rw [List.take_succ_eq_append_getElem hk, e]
def AsFar (l m : List Int) (k : Nat) : Prop := l.take k = m.take k
theorem rsame_any (u v : Value) (l m : List Int) (w : World) (hu : SR w u 1 l.length (nCells l)) (hv : SR w v 1 m.length (nCells m)) :
    Calls Try.prog 136 #[u, v] w (BoolPost (l == m) w) := by
  obtain ⟨a, p, rfl, hlc, hcm⟩ := hu.form
  obtain ⟨a', p', rfl, hlc', hcm'⟩ := hv.form
  unfold maxLen at hcm hcm'
  have HU := Lib.hid hu
  have HV := Lib.hid hv
  clear hu hv
  by_cases hl : l.length = m.length
  · obtain ⟨n, hn⟩ : ∃ n, n = l.length := ⟨_, rfl⟩
    have hm : m.length = n := by omega
    have HN := Lib.hid (And.intro hn hm)
    rw [← hn] at hlc
    rw [hm] at hlc'
    rw [← hn, hm]
    clear hl hn hm
    go_enter Try.func136, Try.ntmps136
    go_wp2_with fail
    go_loopw [5] (fun i wr => ∃ k t : Nat, k ≤ n ∧ i = .int .i64 k ∧ AsFar l m k ∧ wr = w.drewN t) (fun i _ => n - (intOf i).toNat)
    case atStart => exact ⟨0, 0, Nat.zero_le _, rfl, rfl, rfl⟩
    case round =>
      obtain ⟨k, t, hk, rfl, hok, rfl⟩ := hrel
      have HK := Lib.hid hok
      clear hok
      obtain ⟨hn, hm⟩ := HN.out
      by_cases hlt : k < n
      · obtain ⟨b, off, rfl, hb, hcell⟩ := HU.out.int (by omega)
        obtain ⟨b', off', rfl, hb', hcell'⟩ := HV.out.int (by omega)
        have hc := hcell k (by omega)
        have hc' := hcell' k (by omega)
        have s1 := take_snoc l k (by omega)
        have s2 := take_snoc m k (by omega)
        obtain ⟨x, hx⟩ : ∃ x, x = l.getD k 0 := ⟨_, rfl⟩
        obtain ⟨y, hy⟩ : ∃ x, x = m.getD k 0 := ⟨_, rfl⟩
        rw [← hx] at hc s1
        rw [← hy] at hc' s2
        have HS := Lib.hid (And.intro s1 s2)
        clear hcell hcell' hx hy s1 s2 hn hm
        rcases he : x == y
        · have hne : (l == m) = false := by
            have hxy : x ≠ y := by simpa using he
            rw [beq_eq_false_iff_ne]
            intro e
            have := HS.out.1
            rw [e, HS.out.2] at this
            have := List.append_inj_right this rfl
            simp at this
            exact hxy this.symm
          have HF := Lib.hid hne
          clear hne
          go_wp2_with fail
          go_quiet (fail)
          go_wp2_with fail
          go_ret
          exact ⟨ret_bool HF.out.symm, _, World.drewN_drewN _ _ _⟩
        · have hxy : x = y := by simpa using he
          have HE := Lib.hid (show AsFar l m (k + 1) by unfold AsFar; rw [HS.out.1, HS.out.2, hxy, HK.out])
          clear hxy
          go_wp2_with fail
          go_quiet (fail)
          go_wp2_with fail
          go_roundw
          case rel => exact ⟨k + 1, _, by omega, by go_num, HE.out, rfl⟩
          case measure => simp [intOf]; omega
      · obtain rfl : k = n := by omega
        have he : (l == m) = true := by
          have := HK.out
          unfold AsFar at this
          rw [hn, List.take_length, ← hn, ← hm, List.take_length] at this
          simpa using this
        have HF := Lib.hid he
        clear he hn hm hlt
        go_wp2_with fail
        go_ret
        exact ⟨ret_bool HF.out.symm, _, rfl⟩
  · have he : (l == m) = false := by
      rw [beq_eq_false_iff_ne]
      intro e
      exact hl (by rw [e])
    rw [he]
    generalize l.length = n at *
    generalize m.length = n' at *
    have hne : ((n : Int) == (n' : Int)) = false := by simp; omega
    have hne' : ¬ ((n : Int) = (n' : Int)) := by omega
    clear HU HV he
    go_enter Try.func136, Try.ntmps136
    go_wp2_with fail
    go_ret
    exact ⟨rfl, 0, rfl⟩
set_option maxHeartbeats 1600000 in
theorem rsameD (c d : CF) (a1 a2 a3 a4 : Option Addr) (q1 q2 q3 q4 : Nat) (w : World) (h : CFat c w (.slice a1 c.M.length q1) (.slice a2 c.C.length q2)) (k : CFat d w (.slice a3 d.M.length q3) (.slice a4 d.C.length q4)) :
    Calls Try.prog 91 #[.agg #[.int .i64 c.e, .int .i64 c.b, .int .i64 c.k, .slice a1 c.M.length q1, .slice a2 c.C.length q2], .agg #[.int .i64 d.e, .int .i64 d.b, .int .i64 d.k, .slice a3 d.M.length q3, .slice a4 d.C.length q4]] w fun ev w' => ev = .returned (.bool (sameC c d)) ∧ Below w.heap.size w w' := by
  obtain ⟨e, b, n, M, C⟩ := c
  obtain ⟨e', b', n', M', C'⟩ := d
  simp only at *
  have hx := alloc_far (o := .cells #[.int .i64 e', .int .i64 b', .int .i64 n', .slice a3 M'.length q3, .slice a4 C'.length q4] 24) (heap_alloc_self w (.cells #[.int .i64 e, .int .i64 b, .int .i64 n, .slice a1 M.length q1, .slice a2 C.length q2] 24))
  have hy := heap_alloc_self (w.alloc (.cells #[.int .i64 e, .int .i64 b, .int .i64 n, .slice a1 M.length q1, .slice a2 C.length q2] 24)) (.cells #[.int .i64 e', .int .i64 b', .int .i64 n', .slice a3 M'.length q3, .slice a4 C'.length q4] 24)
  have hz : (w.alloc (.cells #[.int .i64 e, .int .i64 b, .int .i64 n, .slice a1 M.length q1, .slice a2 C.length q2] 24)).heap.size = w.heap.size + 1 := by simp
  rw [hz] at hy
  have hb : Below w.heap.size w ((w.alloc (.cells #[.int .i64 e, .int .i64 b, .int .i64 n, .slice a1 M.length q1, .slice a2 C.length q2] 24)).alloc (.cells #[.int .i64 e', .int .i64 b', .int .i64 n', .slice a3 M'.length q3, .slice a4 C'.length q4] 24)) := ((Below.refl _ _).alloc (Nat.le_refl _) _).alloc (by simp) _
  go_enter Try.func91, Try.ntmps91
  go_upto_region 1 with fail
  generalize (w.alloc (.cells #[.int .i64 e, .int .i64 b, .int .i64 n, .slice a1 M.length q1, .slice a2 C.length q2] 24)).alloc (.cells #[.int .i64 e', .int .i64 b', .int .i64 n', .slice a3 M'.length q3, .slice a4 C'.length q4] 24) = w1 at *
  have d0 := cell_atD hx 0 (v := .int .i64 e) rfl
  have d1 := cell_atD hx 1 (v := .int .i64 b) rfl
  have d2 := cell_atD hx 2 (v := .int .i64 n) rfl
  have d3 := cell_atD hx 3 (v := .slice a1 M.length q1) rfl
  have d4 := cell_atD hx 4 (v := .slice a2 C.length q2) rfl
  have e0 := cell_atD hy 0 (v := .int .i64 e') rfl
  have e1 := cell_atD hy 1 (v := .int .i64 b') rfl
  have e2 := cell_atD hy 2 (v := .int .i64 n') rfl
  have e3 := cell_atD hy 3 (v := .slice a3 M'.length q3) rfl
  have e4 := cell_atD hy 4 (v := .slice a4 C'.length q4) rfl
  have cM := rsame_any _ _ M M' w1 (h.below hb).1 (k.below hb).1
  have cC : ∀ q, Calls Try.prog 136 #[.slice a2 C.length q2, .slice a4 C'.length q4] (w1.drewN q) (BoolPost (C == C') (w1.drewN q)) := fun q => rsame_any _ _ C C' _ ((h.below hb).2.same ⟨rfl, rfl, rfl, rfl⟩) ((k.below hb).2.same ⟨rfl, rfl, rfl, rfl⟩)
  have HB := Lib.hid hb
  clear hx hy hz hb h k
  rcases h1 : e == e'
  · go_wp2_with fail
    go_ret
    exact ⟨ret_bool (by simp only [sameC, h1, Bool.false_and]), HB.out⟩
  rcases h2 : b == b'
  · go_wp2_with fail
    go_ret
    exact ⟨ret_bool (by simp only [sameC, h1, h2, Bool.false_and, Bool.true_and]), HB.out⟩
  rcases h3 : n == n'
  · go_wp2_with fail
    go_ret
    exact ⟨ret_bool (by simp only [sameC, h1, h2, h3, Bool.false_and, Bool.true_and]), HB.out⟩
  rcases h4 : M == M'
  · rw [h4] at cM
    go_wp2_with fail
    refine Calls.mono cM ?_
    rintro ev w2 ⟨rfl, q, rfl⟩
    go_wp2_with fail
    go_ret
    exact ⟨ret_bool (by simp only [sameC, h1, h2, h3, h4, Bool.false_and, Bool.true_and]), ⟨HB.out.os, HB.out.tape, HB.out.output, HB.out.size, HB.out.block⟩⟩
  · rw [h4] at cM
    go_wp2_with fail
    refine Calls.mono cM ?_
    rintro ev w2 ⟨rfl, q, rfl⟩
    have cc := cC q
    have d4' : (w1.drewN q).cell? ⟨w.heap.size, 4, none⟩ = some (.slice a2 C.length q2) := d4
    have e4' : (w1.drewN q).cell? ⟨w.heap.size + 1, 4, none⟩ = some (.slice a4 C'.length q4) := e4
    have hb2 : Below w.heap.size w (w1.drewN q) := ⟨HB.out.os, HB.out.tape, HB.out.output, HB.out.size, HB.out.block⟩
    have HB2 := Lib.hid hb2
    clear hb2 cC cM d0 d1 d2 d3 d4 e0 e1 e2 e3 e4 HB
    generalize w1.drewN q = w2 at *
    go_wp2_with fail
    refine Calls.mono cc ?_
    rintro ev w3 ⟨rfl, q', rfl⟩
    go_wp2_with fail
    go_ret
    exact ⟨ret_bool (by simp only [sameC, h1, h2, h3, h4, Bool.true_and]), ⟨HB2.out.os, HB2.out.tape, HB2.out.output, HB2.out.size, HB2.out.block⟩⟩
theorem none_same (c : CF) : sameC c CF.z = noneC c := by
  obtain ⟨e, b, k, M, C⟩ := c
  simp only [sameC, noneC, CF.z]
  congr 3
  cases M <;> cases C <;> simp
theorem rnoneD (c : CF) (a1 a2 : Option Addr) (q1 q2 : Nat) (w : World) (h : CFat c w (.slice a1 c.M.length q1) (.slice a2 c.C.length q2)) :
    Calls Try.prog 76 #[.agg #[.int .i64 c.e, .int .i64 c.b, .int .i64 c.k, .slice a1 c.M.length q1, .slice a2 c.C.length q2]] w fun ev w' => ev = .returned (.bool (noneC c)) ∧ Below w.heap.size w w' := by
  have hx := heap_alloc_self w (.cells #[.int .i64 c.e, .int .i64 c.b, .int .i64 c.k, .slice a1 c.M.length q1, .slice a2 c.C.length q2] 24)
  have hb : Below w.heap.size w (w.alloc (.cells #[.int .i64 c.e, .int .i64 c.b, .int .i64 c.k, .slice a1 c.M.length q1, .slice a2 c.C.length q2] 24)) := (Below.refl _ _).alloc (Nat.le_refl _) _
  go_enter Try.func76, Try.ntmps76
  go_upto_region 1 with fail
  generalize w.alloc (.cells #[.int .i64 c.e, .int .i64 c.b, .int .i64 c.k, .slice a1 c.M.length q1, .slice a2 c.C.length q2] 24) = w1 at *
  have c0 := cell_atD hx 0 (v := .int .i64 c.e) rfl
  have c1 := cell_atD hx 1 (v := .int .i64 c.b) rfl
  have c2 := cell_atD hx 2 (v := .int .i64 c.k) rfl
  have c3 := cell_atD hx 3 (v := .slice a1 c.M.length q1) rfl
  have c4 := cell_atD hx 4 (v := .slice a2 c.C.length q2) rfl
  have cs := rsameD c CF.z a1 a2 none none q1 q2 0 0 w1 (h.below hb) ⟨SR.nil_ _ _, SR.nil_ _ _⟩
  rw [none_same] at cs
  simp only [CF.z, List.length_nil] at cs
  have HB := Lib.hid hb
  clear hx hb h
  go_wp2_with fail
  refine Calls.mono cs ?_
  rintro ev w2 ⟨rfl, hb2⟩
  have HB2 := Lib.hid (HB.out.trans (hb2.mono HB.out.size))
  clear hb2 HB cs
  go_wp2_with fail
  go_ret
  exact ⟨rfl, HB2.out⟩
theorem nodes_one (C : List Int) : nodesB C 1 = (nodesB C 0 && decide (0 < C.length)) := by
  unfold nodesB
  rw [show decide (1 ≤ C.length) = decide (0 < C.length) from rfl]
  cases okK C C.length <;> cases decide (0 < C.length) <;> cases decide (C.length ≤ 3) <;> simp
set_option maxHeartbeats 1600000 in
theorem rmayD (c : CF) (a1 a2 : Option Addr) (q1 q2 : Nat) (w : World) (h : CFat c w (.slice a1 c.M.length q1) (.slice a2 c.C.length q2)) :
    Calls Try.prog 77 #[.agg #[.int .i64 c.e, .int .i64 c.b, .int .i64 c.k, .slice a1 c.M.length q1, .slice a2 c.C.length q2]] w fun ev w' => ev = .returned (.bool (mayC c)) ∧ Below w.heap.size w w' := by
  have cn := rnoneD c a1 a2 q1 q2
  have hr : ∀ t, mayC c = t → mayC c = t := fun _ h => h
  obtain ⟨e, b, k, M, C⟩ := c
  have HR := Lib.hid hr
  have HH := Lib.hid h
  clear hr
  simp only at *
  clear h
  rcases hn : noneC ⟨e, b, k, M, C⟩
  · skip
    have hx := heap_alloc_self w (.cells #[.int .i64 e, .int .i64 b, .int .i64 k, .slice a1 M.length q1, .slice a2 C.length q2] 24)
    have hb : Below w.heap.size w (w.alloc (.cells #[.int .i64 e, .int .i64 b, .int .i64 k, .slice a1 M.length q1, .slice a2 C.length q2] 24)) := (Below.refl _ _).alloc (Nat.le_refl _) _
    go_enter Try.func77, Try.ntmps77
    go_upto_region 1 with fail
    generalize w.alloc (.cells #[.int .i64 e, .int .i64 b, .int .i64 k, .slice a1 M.length q1, .slice a2 C.length q2] 24) = w0 at *
    have b0 := cell_atD hx 0 (v := .int .i64 e) rfl
    have b1 := cell_atD hx 1 (v := .int .i64 b) rfl
    have b2 := cell_atD hx 2 (v := .int .i64 k) rfl
    have b3 := cell_atD hx 3 (v := .slice a1 M.length q1) rfl
    have b4 := cell_atD hx 4 (v := .slice a2 C.length q2) rfl
    have cn := cn w0 (CFat.below HH.out hb)
    rw [hn] at cn
    have HX := Lib.hid (And.intro hx hb)
    clear hx hb
    go_wp2_with fail
    refine Calls.mono cn ?_
    rintro ev w1 ⟨rfl, hb1⟩
    have x1 := below_at hb1 (lt_heap HX.out.1) HX.out.1
    have e1 : Below w.heap.size w w1 := HX.out.2.trans (hb1.mono HX.out.2.size)
    have l1 := CFat.below HH.out e1
    have cl := lists_any _ _ M C w1 l1.1 l1.2
    have c0 := cell_atD x1 0 (v := .int .i64 e) rfl
    have c1 := cell_atD x1 1 (v := .int .i64 b) rfl
    have c2 := cell_atD x1 2 (v := .int .i64 k) rfl
    have c3 := cell_atD x1 3 (v := .slice a1 M.length q1) rfl
    have c4 := cell_atD x1 4 (v := .slice a2 C.length q2) rfl
    have E1 := Lib.hid e1
    clear hb1 x1 e1 l1 cn HX b0 b1 b2 b3 b4
    rcases d1 : decide (0 ≤ e)
    · have g : ¬ (0 ≤ e) := by simpa using d1
      go_wp2_with fail
      go_ret
      exact ⟨ret_bool (by unfold mayC; simp only [hn, d1, Bool.false_or, Bool.false_and, Bool.true_and]), E1.out⟩
    have gd1 : 0 ≤ e := by simpa using d1
    rcases d2 : decide (e ≤ 1048576)
    · have g : ¬ (e ≤ 1048576) := by simpa using d2
      go_wp2_with fail
      go_ret
      exact ⟨ret_bool (by unfold mayC; simp only [hn, d1, d2, Bool.false_or, Bool.false_and, Bool.true_and]), E1.out⟩
    have gd2 : e ≤ 1048576 := by simpa using d2
    rcases d3 : decide (5 ≤ b ∧ b ≤ 6)
    · have g3 : ¬ (5 ≤ b ∧ b ≤ 6) := by simpa using d3
      have z5 : (b == 5) = false := by simp; omega
      have z6 : (b == 6) = false := by simp; omega
      clear g3
      go_wp2_with fail
      go_ret
      exact ⟨ret_bool (by unfold mayC; simp only [hn, d1, d2, d3, Bool.false_or, Bool.false_and, Bool.true_and]), E1.out⟩
    have g3 : 5 ≤ b ∧ b ≤ 6 := by simpa using d3
    have hb56 : b = 5 ∨ b = 6 := by omega
    clear g3
    rcases hb56 with rfl | rfl
    · skip
      rcases d5 : decide (1 ≤ k)
      · have g : ¬ (1 ≤ k) := by simpa using d5
        go_wp2_with fail
        go_ret
        exact ⟨ret_bool (by unfold mayC; simp only [hn, d1, d2, d3, d5, Bool.false_or, Bool.false_and, Bool.true_and]), E1.out⟩
      have gd5 : 1 ≤ k := by simpa using d5
      rcases d6 : decide (k ≤ 1048576)
      · have g : ¬ (k ≤ 1048576) := by simpa using d6
        go_wp2_with fail
        go_ret
        exact ⟨ret_bool (by unfold mayC; simp only [hn, d1, d2, d3, d5, d6, Bool.false_or, Bool.false_and, Bool.true_and]), E1.out⟩
      have gd6 : k ≤ 1048576 := by simpa using d6
      go_wp2_with fail
      refine Calls.mono cl ?_
      rintro ev w2 ⟨rfl, nd, rfl⟩
      go_wp2_with fail
      go_ret
      refine ⟨ret_bool (by unfold mayC; simp only [hn, d1, d2, d3, d5, d6, listsC, nodes_one, Bool.false_or, Bool.false_and, Bool.true_and]), ?_⟩
      exact ⟨E1.out.os, E1.out.tape, E1.out.output, E1.out.size, E1.out.block⟩
    · skip
      rcases d5 : decide (1 ≤ k)
      · have g : ¬ (1 ≤ k) := by simpa using d5
        go_wp2_with fail
        go_ret
        exact ⟨ret_bool (by unfold mayC; simp only [hn, d1, d2, d3, d5, Bool.false_or, Bool.false_and, Bool.true_and]), E1.out⟩
      have gd5 : 1 ≤ k := by simpa using d5
      rcases d6 : decide (k ≤ 1048576)
      · have g : ¬ (k ≤ 1048576) := by simpa using d6
        go_wp2_with fail
        go_ret
        exact ⟨ret_bool (by unfold mayC; simp only [hn, d1, d2, d3, d5, d6, Bool.false_or, Bool.false_and, Bool.true_and]), E1.out⟩
      have gd6 : k ≤ 1048576 := by simpa using d6
      go_wp2_with fail
      refine Calls.mono cl ?_
      rintro ev w2 ⟨rfl, nd, rfl⟩
      go_wp2_with fail
      go_ret
      refine ⟨ret_bool (by unfold mayC; simp only [hn, d1, d2, d3, d5, d6, listsC, nodes_one, Bool.false_or, Bool.false_and, Bool.true_and]), ?_⟩
      exact ⟨E1.out.os, E1.out.tape, E1.out.output, E1.out.size, E1.out.block⟩
  · skip
    have hx := heap_alloc_self w (.cells #[.int .i64 e, .int .i64 b, .int .i64 k, .slice a1 M.length q1, .slice a2 C.length q2] 24)
    have hb : Below w.heap.size w (w.alloc (.cells #[.int .i64 e, .int .i64 b, .int .i64 k, .slice a1 M.length q1, .slice a2 C.length q2] 24)) := (Below.refl _ _).alloc (Nat.le_refl _) _
    go_enter Try.func77, Try.ntmps77
    go_upto_region 1 with fail
    generalize w.alloc (.cells #[.int .i64 e, .int .i64 b, .int .i64 k, .slice a1 M.length q1, .slice a2 C.length q2] 24) = w0 at *
    have b0 := cell_atD hx 0 (v := .int .i64 e) rfl
    have b1 := cell_atD hx 1 (v := .int .i64 b) rfl
    have b2 := cell_atD hx 2 (v := .int .i64 k) rfl
    have b3 := cell_atD hx 3 (v := .slice a1 M.length q1) rfl
    have b4 := cell_atD hx 4 (v := .slice a2 C.length q2) rfl
    have cn := cn w0 (CFat.below HH.out hb)
    rw [hn] at cn
    have HX := Lib.hid (And.intro hx hb)
    clear hx hb
    go_wp2_with fail
    refine Calls.mono cn ?_
    rintro ev w1 ⟨rfl, hb1⟩
    have x1 := below_at hb1 (lt_heap HX.out.1) HX.out.1
    have e1 : Below w.heap.size w w1 := HX.out.2.trans (hb1.mono HX.out.2.size)
    have l1 := CFat.below HH.out e1
    have cl := lists_any _ _ M C w1 l1.1 l1.2
    have c0 := cell_atD x1 0 (v := .int .i64 e) rfl
    have c1 := cell_atD x1 1 (v := .int .i64 b) rfl
    have c2 := cell_atD x1 2 (v := .int .i64 k) rfl
    have c3 := cell_atD x1 3 (v := .slice a1 M.length q1) rfl
    have c4 := cell_atD x1 4 (v := .slice a2 C.length q2) rfl
    have E1 := Lib.hid e1
    clear hb1 x1 e1 l1 cn HX b0 b1 b2 b3 b4
    clear cl c0 c1 c2 c3 c4
    go_wp2_with fail
    go_ret
    exact ⟨ret_bool (by unfold mayC; simp only [hn, Bool.true_or]), E1.out⟩
end Go.Proofs.Ytlhjgpedmnjbpaa
/-
  The contracts of a source's small calls: Err, Wrong, Left, Take. Condition: the source is a block of its own (two cells), or nil.
-/





namespace Go.Proofs.Ytlhjgpedmnjbpaa
open Go.RowKit
set_option linter.unusedVariables false

/-- bytes that are left, and the first error -/
structure RS where
  s : List UInt8
  e : Int
def RS.fail (r : RS) (n : Int) : RS := if r.e = 0 ∧ n ≠ 0 then ⟨[], n⟩ else r
def RS.takeS (r : RS) (n : Int) : RS := if r.e ≠ 0 then r else if n < 0 ∨ (r.s.length : Int) < n then r.fail 2 else ⟨r.s.drop n.toNat, r.e⟩
def RS.takeB (r : RS) (n : Int) : List UInt8 := if r.e ≠ 0 then [] else if n < 0 ∨ (r.s.length : Int) < n then [] else r.s.take n.toNat

/-- the source of block b -/
def Src (w : World) (b : Nat) (r : RS) : Prop :=
  w.heap[b]? = some (.cells #[.string ⟨r.s.toArray⟩, .int .i64 r.e] 134 (0, 0))
theorem Src.c0 {w : World} {b : Nat} {r : RS} (h : Src w b r) : w.cell? ⟨b, 0, none⟩ = some (.string ⟨r.s.toArray⟩) := by unfold Src at h; simp [World.cell?, h]
theorem Src.c1 {w : World} {b : Nat} {r : RS} (h : Src w b r) : w.cell? ⟨b, 1, none⟩ = some (.int .i64 r.e) := by unfold Src at h; simp [World.cell?, h]
theorem Src.f0 {w : World} {b : Nat} {r : RS} (h : Src w b r) : w.frozen? ⟨b, 0, none⟩ = false := by unfold Src at h; simp [World.frozen?, h]
theorem Src.f1 {w : World} {b : Nat} {r : RS} (h : Src w b r) : w.frozen? ⟨b, 1, none⟩ = false := by unfold Src at h; simp [World.frozen?, h]
theorem Src.set0 {w : World} {b : Nat} {r : RS} (h : Src w b r) (l : List UInt8) : Src (w.setCell ⟨b, 0, none⟩ (.string ⟨l.toArray⟩)) b ⟨l, r.e⟩ := by unfold Src at *; simpa using heap_set_self h 0 (.string ⟨l.toArray⟩)
theorem Src.set1 {w : World} {b : Nat} {r : RS} (h : Src w b r) (n : Int) : Src (w.setCell ⟨b, 1, none⟩ (.int .i64 n)) b ⟨r.s, n⟩ := by unfold Src at *; simpa using heap_set_self h 1 (.int .i64 n)
theorem Src.lt {w : World} {b : Nat} {r : RS} (h : Src w b r) : b < w.heap.size := lt_heap h
theorem Src.below {w w' : World} {b : Nat} {r : RS} (h : Src w b r) (hb : Below w.heap.size w w') : Src w' b r := below_at hb h.lt h

theorem err_nil (w : World) : Calls Try.prog 18 #[.pointer none] w fun e w' => e = .returned (.int .i64 2) ∧ w = w' := by
  go_enter Try.func18, Try.ntmps18
  go_wp2
  go_ret
  exact ⟨rfl, rfl⟩
theorem err_some (b : Nat) (er : Int) (w : World) (h : w.cell? ⟨b, 1, none⟩ = some (.int .i64 er)) :
    Calls Try.prog 18 #[.pointer (some ⟨b, 0, none⟩)] w fun e w' => e = .returned (.int .i64 er) ∧ w = w' := by
  go_enter Try.func18, Try.ntmps18
  go_wp2
  go_ret
  exact ⟨rfl, rfl⟩
theorem left_nil (w : World) : Calls Try.prog 31 #[.pointer none] w fun e w' => e = .returned (.int .i64 0) ∧ w = w' := by
  go_enter Try.func31, Try.ntmps31
  go_wp2
  go_ret
  exact ⟨rfl, rfl⟩
theorem left_some (b : Nat) (s : List UInt8) (w : World) (h : w.cell? ⟨b, 0, none⟩ = some (.string ⟨s.toArray⟩)) :
    Calls Try.prog 31 #[.pointer (some ⟨b, 0, none⟩)] w fun e w' => e = .returned (.int .i64 s.length) ∧ w = w' := by
  go_enter Try.func31, Try.ntmps31
  go_wp2
  go_ret
  exact ⟨rfl, rfl⟩
theorem wrong_nil (n : Int) (w : World) : Calls Try.prog 83 #[.pointer none, .int .i64 n] w fun e w' => e = .returned (.tuple #[]) ∧ w = w' := by
  go_enter Try.func83, Try.ntmps83
  go_wp2
  refine bodyPost_ret (results_none rfl _ _ _) rfl ?_
  exact ⟨rfl, rfl⟩
theorem wrong_zero (b : Nat) (w : World) : Calls Try.prog 83 #[.pointer (some ⟨b, 0, none⟩), .int .i64 0] w fun e w' => e = .returned (.tuple #[]) ∧ w = w' := by
  go_enter Try.func83, Try.ntmps83
  go_wp2
  refine bodyPost_ret (results_none rfl _ _ _) rfl ?_
  exact ⟨rfl, rfl⟩
theorem wrong_again (b : Nat) (n m : Int) (w : World) (hn : (n == 0) = false) (hm : (m == 0) = false) (hm' : (m != 0) = true) (h1 : w.cell? ⟨b, 1, none⟩ = some (.int .i64 m)) :
    Calls Try.prog 83 #[.pointer (some ⟨b, 0, none⟩), .int .i64 n] w fun e w' => e = .returned (.tuple #[]) ∧ w = w' := by
  go_enter Try.func83, Try.ntmps83
  go_wp2
  refine bodyPost_ret (results_none rfl _ _ _) rfl ?_
  exact ⟨rfl, rfl⟩
theorem wrong_first (b : Nat) (s : List UInt8) (n : Int) (w : World) (hn : (n == 0) = false) (h0 : w.cell? ⟨b, 0, none⟩ = some (.string ⟨s.toArray⟩)) (h1 : w.cell? ⟨b, 1, none⟩ = some (.int .i64 0))
    (f0 : w.frozen? ⟨b, 0, none⟩ = false) (f1 : w.frozen? ⟨b, 1, none⟩ = false) :
    Calls Try.prog 83 #[.pointer (some ⟨b, 0, none⟩), .int .i64 n] w fun e w' => e = .returned (.tuple #[]) ∧ w' = (w.setCell ⟨b, 1, none⟩ (.int .i64 n)).setCell ⟨b, 0, none⟩ (.string ⟨#[]⟩) := by
  go_enter Try.func83, Try.ntmps83
  go_wp2
  go_end0
  exact ⟨rfl, rfl⟩

/-- Wrong(n): the first error stays. -/
theorem wrong_src (b : Nat) (r : RS) (n : Int) (w : World) (h : Src w b r) :
    Calls Try.prog 83 #[.pointer (some ⟨b, 0, none⟩), .int .i64 n] w fun e w' => e = .returned (.tuple #[]) ∧ Src w' b (r.fail n) ∧ Only b w w' := by
  by_cases hn : n = 0
  · subst hn
    refine (wrong_zero b w).mono ?_
    rintro e w' ⟨rfl, rfl⟩
    exact ⟨rfl, by simpa [RS.fail] using h, Only.refl _ _⟩
  · by_cases hr : r.e = 0
    · refine (wrong_first b r.s n w (by simpa using hn) h.c0 (by rw [h.c1, hr]) h.f0 h.f1).mono ?_
      rintro e w' ⟨rfl, rfl⟩
      refine ⟨rfl, ?_, ((Only.refl _ _).set _ _).set _ _⟩
      have := (h.set1 n).set0 []
      simpa [RS.fail, hr, hn] using this
    · refine (wrong_again b n r.e w (by simpa using hn) (by simpa using hr) (by simpa using hr) h.c1).mono ?_
      rintro e w' ⟨rfl, rfl⟩
      exact ⟨rfl, by simpa [RS.fail, hr] using h, Only.refl _ _⟩

theorem take_nil (n : Int) (w : World) : Calls Try.prog 119 #[.pointer none, .int .i64 n] w fun e w' => e = .returned (.string ⟨#[]⟩) ∧ w = w' := by
  go_enter Try.func119, Try.ntmps119
  go_wp2_with (go_at_call 18; refine (err_nil _).mono ?_; rintro e w' ⟨rfl, rfl⟩)
  go_ret
  exact ⟨rfl, rfl⟩
theorem take_err (b : Nat) (m n : Int) (w : World) (hm : (m != 0) = true) (h1 : w.cell? ⟨b, 1, none⟩ = some (.int .i64 m)) :
    Calls Try.prog 119 #[.pointer (some ⟨b, 0, none⟩), .int .i64 n] w fun e w' => e = .returned (.string ⟨#[]⟩) ∧ w = w' := by
  go_enter Try.func119, Try.ntmps119
  go_wp2_with (go_at_call 18; refine (err_some _ _ _ h1).mono ?_; rintro e w' ⟨rfl, rfl⟩)
  go_ret
  exact ⟨rfl, rfl⟩
theorem take_ok (b : Nat) (s : List UInt8) (n : Int) (w : World) (hn : 0 ≤ n) (hn2 : n ≤ s.length) (h0 : w.cell? ⟨b, 0, none⟩ = some (.string ⟨s.toArray⟩)) (h1 : w.cell? ⟨b, 1, none⟩ = some (.int .i64 0))
    (f0 : w.frozen? ⟨b, 0, none⟩ = false) :
    Calls Try.prog 119 #[.pointer (some ⟨b, 0, none⟩), .int .i64 n] w fun e w' => e = .returned (.string ⟨(s.take n.toNat).toArray⟩) ∧ w' = w.setCell ⟨b, 0, none⟩ (.string ⟨(s.drop n.toNat).toArray⟩) := by
  go_enter Try.func119, Try.ntmps119
  go_wp2_with (go_at_call 18; refine (err_some _ _ _ h1).mono ?_; rintro e w' ⟨rfl, rfl⟩)
  go_ret
  exact ⟨ret_str (str_take _ _), by rw [str_drop]⟩
theorem take_short (b : Nat) (r : RS) (n : Int) (w : World) (hr : r.e = 0) (hn : n < 0 ∨ (r.s.length : Int) < n) (h : Src w b r) :
    Calls Try.prog 119 #[.pointer (some ⟨b, 0, none⟩), .int .i64 n] w fun e w' => e = .returned (.string ⟨#[]⟩) ∧ Src w' b (r.fail 2) ∧ Only b w w' := by
  have h0 := h.c0
  have h1 : w.cell? ⟨b, 1, none⟩ = some (.int .i64 0) := by rw [h.c1, hr]
  have H := Lib.hid h
  have HR := Lib.hid hr
  clear h hr
  rcases hn with hn | hn
  all_goals
    by_cases hz : n < 0
    all_goals
      go_enter Try.func119, Try.ntmps119
      go_wp2_with (first | (go_at_call 18; refine (err_some _ _ _ h1).mono ?_; rintro e w' ⟨rfl, rfl⟩) | (go_at_call 83; refine (wrong_src b r 2 _ H.out).mono ?_; rintro e w' ⟨rfl, hs, ho⟩))
      go_ret
      exact ⟨rfl, hs, ho⟩
theorem take_src (b : Nat) (r : RS) (n : Int) (w : World) (h : Src w b r) :
    Calls Try.prog 119 #[.pointer (some ⟨b, 0, none⟩), .int .i64 n] w fun e w' => e = .returned (.string ⟨(r.takeB n).toArray⟩) ∧ Src w' b (r.takeS n) ∧ Only b w w' := by
  by_cases hr : r.e = 0
  · by_cases hn : n < 0 ∨ (r.s.length : Int) < n
    · refine (take_short b r n w hr hn h).mono ?_
      rintro e w' ⟨rfl, hs, ho⟩
      exact ⟨by simp [RS.takeB, hr, hn], by simpa [RS.takeS, hr, hn] using hs, ho⟩
    · refine (take_ok b r.s n w (by omega) (by omega) h.c0 (by rw [h.c1, hr]) h.f0).mono ?_
      rintro e w' ⟨rfl, rfl⟩
      exact ⟨by simp [RS.takeB, hr, hn], by simpa [RS.takeS, hr, hn] using h.set0 _, (Only.refl _ _).set _ _⟩
  · refine (take_err b r.e n w (by simpa using hr) h.c1).mono ?_
    rintro e w' ⟨rfl, rfl⟩
    exact ⟨by simp [RS.takeB, hr], by simpa [RS.takeS, hr] using h, Only.refl _ _⟩
end Go.Proofs.Ytlhjgpedmnjbpaa
/-
  The contracts of num's Put, Word, Text, Bool: the bytes that they make.
-/


namespace Go.Proofs.Ytlhjgpedmnjbpaa
open Go.RowKit
set_option linter.unusedVariables false

def U64 (n : Int) : Prop := 0 ≤ n ∧ n ≤ 18446744073709551615
theorem info_u8 : (Try.prog.info? 5).map (fun i => (i.zero, i.size, i.bytes)) = some (some (.int .u8 0), 1, 1) := by kernel_rfl

set_option maxHeartbeats 800000 in
set_option maxRecDepth 100000 in
theorem put_any (n : Int) (w : World) (hn : U64 n) :
    Calls Try.prog 113 #[.int .u64 n] w fun e w' => e = .returned (.string ⟨(putN n.toNat).toArray⟩) ∧ Below w.heap.size w w' := by
  obtain ⟨i0, hi, hz0, hz1, hz2⟩ := info_parts info_u8
  have h0 : 0 ≤ n := hn.1
  have hmk : ∀ w, (Instr.makeSlice 155 (.int .i64 1) (.int .i64 9)).run Try.prog w = .ok (.slice (some ⟨w.heap.size, 0, none⟩) 1 9) (w.alloc (.cells #[.int .u8 0, .int .u8 0, .int .u8 0, .int .u8 0, .int .u8 0, .int .u8 0, .int .u8 0, .int .u8 0, .int .u8 0] 5)) := fun _ => by kernel_rfl
  have hb : Lib.bitLen n.toNat ≤ 64 := Lib.bitLen_le _ 64 (by omega) (by have := hn.2; omega)
  go_enter Try.func113, Try.ntmps113
  go_wp2_with (first | (go_at_call 150; refine (Try.bits_Len64 n _ hn.1 hn.2).mono ?_; rintro e w' ⟨rfl, rfl⟩))
  have he : (((Lib.bitLen n.toNat : Nat) : Int) + 7) / 8 = ((needN n.toNat : Nat) : Int) := by unfold needN; omega
  simp only [he]
  have HE := Lib.hid he
  clear he
  have hm : needN n.toNat ≤ 8 := needN_le _ (by have := hn.2; omega)
  obtain ⟨m, hmm⟩ : ∃ m, m = needN n.toNat := ⟨_, rfl⟩
  rw [← hmm] at hm
  simp only [← hmm]
  have HM := Lib.hid hmm
  clear hmm hb hmk
  go_loopw [4, 5] (fun v i wr => ∃ k : Nat, k ≤ m ∧ i = .int .i64 ((k : Int) - 1) ∧ wr.ownsRow w'.heap.size 5 1 v (1 + (m - k)) (bCells (UInt8.ofNat m :: (beN m n.toNat).take (m - k))) ∧ Below w'.heap.size w' wr) (fun _ i _ => (intOf i + 1).toNat)
  case atStart =>
    refine ⟨m, Nat.le_refl _, rfl, ⟨by simp [bCells], Or.inr ⟨_, 9, _, by simp, Nat.le_refl _, heap_alloc_self _ _, by omega, by unfold maxLen; omega, rfl, ?_⟩⟩, (Below.refl _ _).alloc (Nat.le_refl _) _⟩
    simp [bCells]
    omega
  case round =>
    obtain ⟨k, hk, rfl, hown, hbel⟩ := hrel
    by_cases hk0 : k = 0
    · subst hk0
      have hcv := owned_string (P := Try.prog) (src := 155) (dst := 9) Try.underlying155 Try.underlying5 Try.underlying9 hown
      go_wp2
      go_ret
      refine ⟨ret_str ?_, hbel⟩
      have hm := HM.out
      subst hm
      simp [putN, hiN, List.take_of_length_le, beN_length]
    · go_wp2_with (at_builtin; refine wpList_append_own _ rfl (.tmp 21) (.tmp 27) 155 rfl w'.heap.size 5 i0 (.int .u8 0) 1 1 Try.underlying155 hi hz0 hz1 hz2 rfl (by decide) _ _ _ rfl (hown.alloc _) ⟨wr.heap.size, 0, none⟩ 1 1 [.int .u8 (n / 2 ^ (8 * (k - 1)) % 256)] rfl rfl ?c1 ?c2 ?c3 ?c4 ?c5 ?_)
      case c1 => exact (cell_one_new _ _ _)
      case c2 => intro u hu; simp at hu; subst hu; rfl
      case c3 => unfold maxLen; omega
      case c4 => omega
      case c5 => have := hbel.size; simp; omega
      intro v' w2 hown2 hgr _
      go_wp2
      go_roundw
      case rel =>
        refine ⟨k - 1, by omega, ?_, ?_, ?_⟩
        · congr 1; omega
        · have hx := hown2
          rw [byte_at n h0, show [Value.int IntKind.u8 ((UInt8.ofNat (n.toNat / 256 ^ (k - 1))).toNat : Int)] = bCells [UInt8.ofNat (n.toNat / 256 ^ (k - 1))] from rfl, bCells_append, List.cons_append, beN_more m n.toNat k (by omega) hk] at hx
          rw [show 1 + (m - (k - 1)) = 1 + (m - k) + 1 by omega]
          exact hx
        · exact (hbel.alloc hbel.size _).grown hgr (by have := hbel.size; simp; omega) (fun q hq => (hown.lt q hq).1)
      case measure => simp [intOf]; omega
end Go.Proofs.Ytlhjgpedmnjbpaa
