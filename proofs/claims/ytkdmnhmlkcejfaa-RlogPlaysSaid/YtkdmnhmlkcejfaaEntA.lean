/-
  The reference's configurations, commands and entries: which are the same, and which may be.
-/
import Derived.Test.YtkdmnhmlkcejfaaDecF
namespace Go.Proofs.Ytkdmnhmlkcejfaa
open Go.RowKit
set_option linter.unusedVariables false
set_option linter.unusedSimpArgs false

theorem take_snoc (l : List Int) (k : Nat) (hk : k < l.length) : l.take (k + 1) = l.take k ++ [l.getD k 0] := by
  have e : l.getD k 0 = l[k] := by simp [List.getD, hk]
  rw [List.take_succ_eq_append_getElem hk, e]
def AsFar (l m : List Int) (k : Nat) : Prop := l.take k = m.take k
theorem rsame_any (u v : Value) (l m : List Int) (w : World) (hu : SR w u 1 l.length (nCells l)) (hv : SR w v 1 m.length (nCells m)) :
    Calls Try.prog 46 #[u, v] w (BoolPost (l == m) w) := by
  obtain ⟨a, p, rfl, hlc, hcm⟩ := hu.form
  obtain ⟨a', p', rfl, hlc', hcm'⟩ := hv.form
  unfold maxLen at hcm hcm'
  have HU := Lib.hid hu
  have HV := Lib.hid hv
  clear hu hv
  by_cases hl : l.length = m.length
  · obtain ⟨n, hn⟩ : ∃ n, n = l.length := ⟨_, rfl⟩
    have hm : m.length = n := by omega
    have HN := Lib.hid (And.intro hn hm)
    rw [← hn] at hlc
    rw [hm] at hlc'
    rw [← hn, hm]
    clear hl hn hm
    go_enter Try.func46, Try.ntmps46
    go_wp2_with fail
    go_loopw [5] (fun i wr => ∃ k t : Nat, k ≤ n ∧ i = .int .i64 k ∧ AsFar l m k ∧ wr = w.drewN t) (fun i _ => n - (intOf i).toNat)
    case atStart => exact ⟨0, 0, Nat.zero_le _, rfl, rfl, rfl⟩
    case round =>
      obtain ⟨k, t, hk, rfl, hok, rfl⟩ := hrel
      have HK := Lib.hid hok
      clear hok
      obtain ⟨hn, hm⟩ := HN.out
      by_cases hlt : k < n
      · obtain ⟨b, off, rfl, hb, hcell⟩ := HU.out.int (by omega)
        obtain ⟨b', off', rfl, hb', hcell'⟩ := HV.out.int (by omega)
        have hc := hcell k (by omega)
        have hc' := hcell' k (by omega)
        have s1 := take_snoc l k (by omega)
        have s2 := take_snoc m k (by omega)
        obtain ⟨x, hx⟩ : ∃ x, x = l.getD k 0 := ⟨_, rfl⟩
        obtain ⟨y, hy⟩ : ∃ x, x = m.getD k 0 := ⟨_, rfl⟩
        rw [← hx] at hc s1
        rw [← hy] at hc' s2
        have HS := Lib.hid (And.intro s1 s2)
        clear hcell hcell' hx hy s1 s2 hn hm
        rcases he : x == y
        · have hne : (l == m) = false := by
            have hxy : x ≠ y := by simpa using he
            rw [beq_eq_false_iff_ne]
            intro e
            have := HS.out.1
            rw [e, HS.out.2] at this
            have := List.append_inj_right this rfl
            simp at this
            exact hxy this.symm
          have HF := Lib.hid hne
          clear hne
          go_wp2_with fail
          go_quiet (fail)
          go_wp2_with fail
          go_ret
          exact ⟨ret_bool HF.out.symm, _, World.drewN_drewN _ _ _⟩
        · have hxy : x = y := by simpa using he
          have HE := Lib.hid (show AsFar l m (k + 1) by unfold AsFar; rw [HS.out.1, HS.out.2, hxy, HK.out])
          clear hxy
          go_wp2_with fail
          go_quiet (fail)
          go_wp2_with fail
          go_roundw
          case rel => exact ⟨k + 1, _, by omega, by go_num, HE.out, rfl⟩
          case measure => simp [intOf]; omega
      · obtain rfl : k = n := by omega
        have he : (l == m) = true := by
          have := HK.out
          unfold AsFar at this
          rw [hn, List.take_length, ← hn, ← hm, List.take_length] at this
          simpa using this
        have HF := Lib.hid he
        clear he hn hm hlt
        go_wp2_with fail
        go_ret
        exact ⟨ret_bool HF.out.symm, _, rfl⟩
  · have he : (l == m) = false := by
      rw [beq_eq_false_iff_ne]
      intro e
      exact hl (by rw [e])
    rw [he]
    generalize l.length = n at *
    generalize m.length = n' at *
    have hne : ((n : Int) == (n' : Int)) = false := by simp; omega
    have hne' : ¬ ((n : Int) = (n' : Int)) := by omega
    clear HU HV he
    go_enter Try.func46, Try.ntmps46
    go_wp2_with fail
    go_ret
    exact ⟨rfl, 0, rfl⟩
set_option maxHeartbeats 1600000 in
theorem rsameD (c d : CF) (a1 a2 a3 a4 : Option Addr) (q1 q2 q3 q4 : Nat) (w : World) (h : CFat c w (.slice a1 c.M.length q1) (.slice a2 c.C.length q2)) (k : CFat d w (.slice a3 d.M.length q3) (.slice a4 d.C.length q4)) :
    Calls Try.prog 32 #[.agg #[.int .i64 c.e, .int .i64 c.b, .int .i64 c.k, .slice a1 c.M.length q1, .slice a2 c.C.length q2], .agg #[.int .i64 d.e, .int .i64 d.b, .int .i64 d.k, .slice a3 d.M.length q3, .slice a4 d.C.length q4]] w fun ev w' => ev = .returned (.bool (sameC c d)) ∧ Below w.heap.size w w' := by
  obtain ⟨e, b, n, M, C⟩ := c
  obtain ⟨e', b', n', M', C'⟩ := d
  simp only at *
  have hx := alloc_far (o := .cells #[.int .i64 e', .int .i64 b', .int .i64 n', .slice a3 M'.length q3, .slice a4 C'.length q4] 42) (heap_alloc_self w (.cells #[.int .i64 e, .int .i64 b, .int .i64 n, .slice a1 M.length q1, .slice a2 C.length q2] 42))
  have hy := heap_alloc_self (w.alloc (.cells #[.int .i64 e, .int .i64 b, .int .i64 n, .slice a1 M.length q1, .slice a2 C.length q2] 42)) (.cells #[.int .i64 e', .int .i64 b', .int .i64 n', .slice a3 M'.length q3, .slice a4 C'.length q4] 42)
  have hz : (w.alloc (.cells #[.int .i64 e, .int .i64 b, .int .i64 n, .slice a1 M.length q1, .slice a2 C.length q2] 42)).heap.size = w.heap.size + 1 := by simp
  rw [hz] at hy
  have hb : Below w.heap.size w ((w.alloc (.cells #[.int .i64 e, .int .i64 b, .int .i64 n, .slice a1 M.length q1, .slice a2 C.length q2] 42)).alloc (.cells #[.int .i64 e', .int .i64 b', .int .i64 n', .slice a3 M'.length q3, .slice a4 C'.length q4] 42)) := ((Below.refl _ _).alloc (Nat.le_refl _) _).alloc (by simp) _
  go_enter Try.func32, Try.ntmps32
  go_upto_region 1 with fail
  generalize (w.alloc (.cells #[.int .i64 e, .int .i64 b, .int .i64 n, .slice a1 M.length q1, .slice a2 C.length q2] 42)).alloc (.cells #[.int .i64 e', .int .i64 b', .int .i64 n', .slice a3 M'.length q3, .slice a4 C'.length q4] 42) = w1 at *
  have d0 := cell_atD hx 0 (v := .int .i64 e) rfl
  have d1 := cell_atD hx 1 (v := .int .i64 b) rfl
  have d2 := cell_atD hx 2 (v := .int .i64 n) rfl
  have d3 := cell_atD hx 3 (v := .slice a1 M.length q1) rfl
  have d4 := cell_atD hx 4 (v := .slice a2 C.length q2) rfl
  have e0 := cell_atD hy 0 (v := .int .i64 e') rfl
  have e1 := cell_atD hy 1 (v := .int .i64 b') rfl
  have e2 := cell_atD hy 2 (v := .int .i64 n') rfl
  have e3 := cell_atD hy 3 (v := .slice a3 M'.length q3) rfl
  have e4 := cell_atD hy 4 (v := .slice a4 C'.length q4) rfl
  have cM := rsame_any _ _ M M' w1 (h.below hb).1 (k.below hb).1
  have cC : ∀ q, Calls Try.prog 46 #[.slice a2 C.length q2, .slice a4 C'.length q4] (w1.drewN q) (BoolPost (C == C') (w1.drewN q)) := fun q => rsame_any _ _ C C' _ ((h.below hb).2.same ⟨rfl, rfl, rfl, rfl⟩) ((k.below hb).2.same ⟨rfl, rfl, rfl, rfl⟩)
  have HB := Lib.hid hb
  clear hx hy hz hb h k
  rcases h1 : e == e'
  · go_wp2_with fail
    go_ret
    exact ⟨ret_bool (by simp only [sameC, h1, Bool.false_and]), HB.out⟩
  rcases h2 : b == b'
  · go_wp2_with fail
    go_ret
    exact ⟨ret_bool (by simp only [sameC, h1, h2, Bool.false_and, Bool.true_and]), HB.out⟩
  rcases h3 : n == n'
  · go_wp2_with fail
    go_ret
    exact ⟨ret_bool (by simp only [sameC, h1, h2, h3, Bool.false_and, Bool.true_and]), HB.out⟩
  rcases h4 : M == M'
  · rw [h4] at cM
    go_wp2_with fail
    refine Calls.mono cM ?_
    rintro ev w2 ⟨rfl, q, rfl⟩
    go_wp2_with fail
    go_ret
    exact ⟨ret_bool (by simp only [sameC, h1, h2, h3, h4, Bool.false_and, Bool.true_and]), ⟨HB.out.os, HB.out.tape, HB.out.output, HB.out.size, HB.out.block⟩⟩
  · rw [h4] at cM
    go_wp2_with fail
    refine Calls.mono cM ?_
    rintro ev w2 ⟨rfl, q, rfl⟩
    have cc := cC q
    have d4' : (w1.drewN q).cell? ⟨w.heap.size, 4, none⟩ = some (.slice a2 C.length q2) := d4
    have e4' : (w1.drewN q).cell? ⟨w.heap.size + 1, 4, none⟩ = some (.slice a4 C'.length q4) := e4
    have hb2 : Below w.heap.size w (w1.drewN q) := ⟨HB.out.os, HB.out.tape, HB.out.output, HB.out.size, HB.out.block⟩
    have HB2 := Lib.hid hb2
    clear hb2 cC cM d0 d1 d2 d3 d4 e0 e1 e2 e3 e4 HB
    generalize w1.drewN q = w2 at *
    go_wp2_with fail
    refine Calls.mono cc ?_
    rintro ev w3 ⟨rfl, q', rfl⟩
    go_wp2_with fail
    go_ret
    exact ⟨ret_bool (by simp only [sameC, h1, h2, h3, h4, Bool.true_and]), ⟨HB2.out.os, HB2.out.tape, HB2.out.output, HB2.out.size, HB2.out.block⟩⟩
theorem none_same (c : CF) : sameC c CF.z = noneC c := by
  obtain ⟨e, b, k, M, C⟩ := c
  simp only [sameC, noneC, CF.z]
  congr 3
  cases M <;> cases C <;> simp
theorem rnoneD (c : CF) (a1 a2 : Option Addr) (q1 q2 : Nat) (w : World) (h : CFat c w (.slice a1 c.M.length q1) (.slice a2 c.C.length q2)) :
    Calls Try.prog 57 #[.agg #[.int .i64 c.e, .int .i64 c.b, .int .i64 c.k, .slice a1 c.M.length q1, .slice a2 c.C.length q2]] w fun ev w' => ev = .returned (.bool (noneC c)) ∧ Below w.heap.size w w' := by
  have hx := heap_alloc_self w (.cells #[.int .i64 c.e, .int .i64 c.b, .int .i64 c.k, .slice a1 c.M.length q1, .slice a2 c.C.length q2] 42)
  have hb : Below w.heap.size w (w.alloc (.cells #[.int .i64 c.e, .int .i64 c.b, .int .i64 c.k, .slice a1 c.M.length q1, .slice a2 c.C.length q2] 42)) := (Below.refl _ _).alloc (Nat.le_refl _) _
  go_enter Try.func57, Try.ntmps57
  go_upto_region 1 with fail
  generalize w.alloc (.cells #[.int .i64 c.e, .int .i64 c.b, .int .i64 c.k, .slice a1 c.M.length q1, .slice a2 c.C.length q2] 42) = w1 at *
  have c0 := cell_atD hx 0 (v := .int .i64 c.e) rfl
  have c1 := cell_atD hx 1 (v := .int .i64 c.b) rfl
  have c2 := cell_atD hx 2 (v := .int .i64 c.k) rfl
  have c3 := cell_atD hx 3 (v := .slice a1 c.M.length q1) rfl
  have c4 := cell_atD hx 4 (v := .slice a2 c.C.length q2) rfl
  have cs := rsameD c CF.z a1 a2 none none q1 q2 0 0 w1 (h.below hb) ⟨SR.nil_ _ _, SR.nil_ _ _⟩
  rw [none_same] at cs
  simp only [CF.z, List.length_nil] at cs
  have HB := Lib.hid hb
  clear hx hb h
  go_wp2_with fail
  refine Calls.mono cs ?_
  rintro ev w2 ⟨rfl, hb2⟩
  have HB2 := Lib.hid (HB.out.trans (hb2.mono HB.out.size))
  clear hb2 HB cs
  go_wp2_with fail
  go_ret
  exact ⟨rfl, HB2.out⟩
theorem nodes_one (C : List Int) : nodesB C 1 = (nodesB C 0 && decide (0 < C.length)) := by
  unfold nodesB
  rw [show decide (1 ≤ C.length) = decide (0 < C.length) from rfl]
  cases okK C C.length <;> cases decide (0 < C.length) <;> cases decide (C.length ≤ 3) <;> simp
set_option maxHeartbeats 1600000 in
theorem rmayD (c : CF) (a1 a2 : Option Addr) (q1 q2 : Nat) (w : World) (h : CFat c w (.slice a1 c.M.length q1) (.slice a2 c.C.length q2)) :
    Calls Try.prog 58 #[.agg #[.int .i64 c.e, .int .i64 c.b, .int .i64 c.k, .slice a1 c.M.length q1, .slice a2 c.C.length q2]] w fun ev w' => ev = .returned (.bool (mayC c)) ∧ Below w.heap.size w w' := by
  have cn := rnoneD c a1 a2 q1 q2
  have hr : ∀ t, mayC c = t → mayC c = t := fun _ h => h
  obtain ⟨e, b, k, M, C⟩ := c
  have HR := Lib.hid hr
  have HH := Lib.hid h
  clear hr
  simp only at *
  clear h
  rcases hn : noneC ⟨e, b, k, M, C⟩
  · skip
    have hx := heap_alloc_self w (.cells #[.int .i64 e, .int .i64 b, .int .i64 k, .slice a1 M.length q1, .slice a2 C.length q2] 42)
    have hb : Below w.heap.size w (w.alloc (.cells #[.int .i64 e, .int .i64 b, .int .i64 k, .slice a1 M.length q1, .slice a2 C.length q2] 42)) := (Below.refl _ _).alloc (Nat.le_refl _) _
    go_enter Try.func58, Try.ntmps58
    go_upto_region 1 with fail
    generalize w.alloc (.cells #[.int .i64 e, .int .i64 b, .int .i64 k, .slice a1 M.length q1, .slice a2 C.length q2] 42) = w0 at *
    have b0 := cell_atD hx 0 (v := .int .i64 e) rfl
    have b1 := cell_atD hx 1 (v := .int .i64 b) rfl
    have b2 := cell_atD hx 2 (v := .int .i64 k) rfl
    have b3 := cell_atD hx 3 (v := .slice a1 M.length q1) rfl
    have b4 := cell_atD hx 4 (v := .slice a2 C.length q2) rfl
    have cn := cn w0 (CFat.below HH.out hb)
    rw [hn] at cn
    have HX := Lib.hid (And.intro hx hb)
    clear hx hb
    go_wp2_with fail
    refine Calls.mono cn ?_
    rintro ev w1 ⟨rfl, hb1⟩
    have x1 := below_at hb1 (lt_heap HX.out.1) HX.out.1
    have e1 : Below w.heap.size w w1 := HX.out.2.trans (hb1.mono HX.out.2.size)
    have l1 := CFat.below HH.out e1
    have cl := lists_any _ _ M C w1 l1.1 l1.2
    have c0 := cell_atD x1 0 (v := .int .i64 e) rfl
    have c1 := cell_atD x1 1 (v := .int .i64 b) rfl
    have c2 := cell_atD x1 2 (v := .int .i64 k) rfl
    have c3 := cell_atD x1 3 (v := .slice a1 M.length q1) rfl
    have c4 := cell_atD x1 4 (v := .slice a2 C.length q2) rfl
    have E1 := Lib.hid e1
    clear hb1 x1 e1 l1 cn HX b0 b1 b2 b3 b4
    rcases d1 : decide (0 ≤ e)
    · have g : ¬ (0 ≤ e) := by simpa using d1
      go_wp2_with fail
      go_ret
      exact ⟨ret_bool (by unfold mayC; simp only [hn, d1, Bool.false_or, Bool.false_and, Bool.true_and]), E1.out⟩
    have gd1 : 0 ≤ e := by simpa using d1
    rcases d2 : decide (e ≤ 1048576)
    · have g : ¬ (e ≤ 1048576) := by simpa using d2
      go_wp2_with fail
      go_ret
      exact ⟨ret_bool (by unfold mayC; simp only [hn, d1, d2, Bool.false_or, Bool.false_and, Bool.true_and]), E1.out⟩
    have gd2 : e ≤ 1048576 := by simpa using d2
    rcases d3 : decide (5 ≤ b ∧ b ≤ 6)
    · have g3 : ¬ (5 ≤ b ∧ b ≤ 6) := by simpa using d3
      have z5 : (b == 5) = false := by simp; omega
      have z6 : (b == 6) = false := by simp; omega
      clear g3
      go_wp2_with fail
      go_ret
      exact ⟨ret_bool (by unfold mayC; simp only [hn, d1, d2, d3, Bool.false_or, Bool.false_and, Bool.true_and]), E1.out⟩
    have g3 : 5 ≤ b ∧ b ≤ 6 := by simpa using d3
    have hb56 : b = 5 ∨ b = 6 := by omega
    clear g3
    rcases hb56 with rfl | rfl
    · skip
      rcases d5 : decide (1 ≤ k)
      · have g : ¬ (1 ≤ k) := by simpa using d5
        go_wp2_with fail
        go_ret
        exact ⟨ret_bool (by unfold mayC; simp only [hn, d1, d2, d3, d5, Bool.false_or, Bool.false_and, Bool.true_and]), E1.out⟩
      have gd5 : 1 ≤ k := by simpa using d5
      rcases d6 : decide (k ≤ 1048576)
      · have g : ¬ (k ≤ 1048576) := by simpa using d6
        go_wp2_with fail
        go_ret
        exact ⟨ret_bool (by unfold mayC; simp only [hn, d1, d2, d3, d5, d6, Bool.false_or, Bool.false_and, Bool.true_and]), E1.out⟩
      have gd6 : k ≤ 1048576 := by simpa using d6
      go_wp2_with fail
      refine Calls.mono cl ?_
      rintro ev w2 ⟨rfl, nd, rfl⟩
      go_wp2_with fail
      go_ret
      refine ⟨ret_bool (by unfold mayC; simp only [hn, d1, d2, d3, d5, d6, listsC, nodes_one, Bool.false_or, Bool.false_and, Bool.true_and]), ?_⟩
      exact ⟨E1.out.os, E1.out.tape, E1.out.output, E1.out.size, E1.out.block⟩
    · skip
      rcases d5 : decide (1 ≤ k)
      · have g : ¬ (1 ≤ k) := by simpa using d5
        go_wp2_with fail
        go_ret
        exact ⟨ret_bool (by unfold mayC; simp only [hn, d1, d2, d3, d5, Bool.false_or, Bool.false_and, Bool.true_and]), E1.out⟩
      have gd5 : 1 ≤ k := by simpa using d5
      rcases d6 : decide (k ≤ 1048576)
      · have g : ¬ (k ≤ 1048576) := by simpa using d6
        go_wp2_with fail
        go_ret
        exact ⟨ret_bool (by unfold mayC; simp only [hn, d1, d2, d3, d5, d6, Bool.false_or, Bool.false_and, Bool.true_and]), E1.out⟩
      have gd6 : k ≤ 1048576 := by simpa using d6
      go_wp2_with fail
      refine Calls.mono cl ?_
      rintro ev w2 ⟨rfl, nd, rfl⟩
      go_wp2_with fail
      go_ret
      refine ⟨ret_bool (by unfold mayC; simp only [hn, d1, d2, d3, d5, d6, listsC, nodes_one, Bool.false_or, Bool.false_and, Bool.true_and]), ?_⟩
      exact ⟨E1.out.os, E1.out.tape, E1.out.output, E1.out.size, E1.out.block⟩
  · skip
    have hx := heap_alloc_self w (.cells #[.int .i64 e, .int .i64 b, .int .i64 k, .slice a1 M.length q1, .slice a2 C.length q2] 42)
    have hb : Below w.heap.size w (w.alloc (.cells #[.int .i64 e, .int .i64 b, .int .i64 k, .slice a1 M.length q1, .slice a2 C.length q2] 42)) := (Below.refl _ _).alloc (Nat.le_refl _) _
    go_enter Try.func58, Try.ntmps58
    go_upto_region 1 with fail
    generalize w.alloc (.cells #[.int .i64 e, .int .i64 b, .int .i64 k, .slice a1 M.length q1, .slice a2 C.length q2] 42) = w0 at *
    have b0 := cell_atD hx 0 (v := .int .i64 e) rfl
    have b1 := cell_atD hx 1 (v := .int .i64 b) rfl
    have b2 := cell_atD hx 2 (v := .int .i64 k) rfl
    have b3 := cell_atD hx 3 (v := .slice a1 M.length q1) rfl
    have b4 := cell_atD hx 4 (v := .slice a2 C.length q2) rfl
    have cn := cn w0 (CFat.below HH.out hb)
    rw [hn] at cn
    have HX := Lib.hid (And.intro hx hb)
    clear hx hb
    go_wp2_with fail
    refine Calls.mono cn ?_
    rintro ev w1 ⟨rfl, hb1⟩
    have x1 := below_at hb1 (lt_heap HX.out.1) HX.out.1
    have e1 : Below w.heap.size w w1 := HX.out.2.trans (hb1.mono HX.out.2.size)
    have l1 := CFat.below HH.out e1
    have cl := lists_any _ _ M C w1 l1.1 l1.2
    have c0 := cell_atD x1 0 (v := .int .i64 e) rfl
    have c1 := cell_atD x1 1 (v := .int .i64 b) rfl
    have c2 := cell_atD x1 2 (v := .int .i64 k) rfl
    have c3 := cell_atD x1 3 (v := .slice a1 M.length q1) rfl
    have c4 := cell_atD x1 4 (v := .slice a2 C.length q2) rfl
    have E1 := Lib.hid e1
    clear hb1 x1 e1 l1 cn HX b0 b1 b2 b3 b4
    clear cl c0 c1 c2 c3 c4
    go_wp2_with fail
    go_ret
    exact ⟨ret_bool (by unfold mayC; simp only [hn, Bool.true_or]), E1.out⟩
end Go.Proofs.Ytkdmnhmlkcejfaa
