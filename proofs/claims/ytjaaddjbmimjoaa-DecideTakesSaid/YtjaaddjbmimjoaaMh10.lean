/-
  Several texts, laid together.
-/
import Derived.Test.YtjaaddjbmimjoaaMh9
/-
  Configurations: which may be; all nodes of one; the waking call of layer 11.
-/

namespace Go.Proofs.Ytjaaddjbmimjoaa
open Go.RowKit
set_option linter.unusedVariables false

set_option maxHeartbeats 3200000 in
set_option maxRecDepth 20000 in
theorem clist_any (v : Value) (l : List Int) (w : World) (hv : SR w v 1 l.length (nCells l)) : Calls Try.prog 119 #[v] w fun e w' => e = .returned (.bool (nodesB l 0)) ∧ w = w' := by
  obtain ⟨ad, cap, rfl, hlc, hcm⟩ := hv.form
  unfold maxLen at hcm
  have HV := Lib.hid hv
  clear hv
  by_cases h3 : 3 < l.length
  · have hb : nodesB l 0 = false := by simp [nodesB]; omega
    rw [hb]
    clear hb
    go_enter Try.func119, Try.ntmps119
    go_wp2_with fail
    go_ret
    exact ⟨rfl, rfl⟩
  · have h3' : l.length ≤ 3 := by omega
    go_enter Try.func119, Try.ntmps119
    go_wp2_with fail
    go_loop [10] (fun i => ∃ k : Nat, k ≤ l.length ∧ i = .int .i64 k ∧ OkAt l k) (fun i => l.length - (intOf i).toNat)
    case atStart => exact ⟨0, Nat.zero_le _, rfl, rfl⟩
    case round =>
      obtain ⟨k, hk, rfl, hok⟩ := hrel
      have HK := Lib.hid hok
      clear hok h3
      by_cases hlt : k < l.length
      · obtain ⟨b, off, rfl, hb, hcell⟩ := HV.out.int (by omega)
        have hc := hcell k hlt
        have hfr := (HV.out.front k (by omega))
        rw [nCells_take] at hfr
        obtain ⟨x, hx⟩ : ∃ x, x = l.getD k 0 := ⟨_, rfl⟩
        rw [← hx] at hc
        have HX := Lib.hid hx
        have hlk : (l.take k).length = k := by rw [List.length_take]; omega
        have ch := contains_any (.slice (some ⟨b, off, none⟩) k cap) (l.take k) x w (by rw [hlk]; exact hfr)
        have cn := fun w => cnode_any x w
        have hs1 : okK l (k + 1) = (okK l k && decide (0 ≤ x ∧ x ≤ 4) && !decide (x ∈ l.take k)) := by rw [hx]; rfl
        have HS := Lib.hid hs1
        have hck : k ≤ cap := by omega
        clear hcell hx hfr hlk hs1
        by_cases hr : 0 ≤ x ∧ x ≤ 4
        · simp only [hr, and_self, decide_true] at cn HS
          obtain ⟨m, hm⟩ : ∃ m, m = decide (x ∈ l.take k) := ⟨_, rfl⟩
          rw [← hm] at HS ch
          clear hm
          cases m
          · have HO := Lib.hid (show okK l (k + 1) = true by rw [HS.out, HK.out]; rfl)
            go_wp2_with fail
            refine Calls.mono (cn _) ?_
            rintro e w1 ⟨rfl, rfl⟩
            go_wp2_with fail
            refine Calls.mono ch ?_
            rintro e w1 ⟨rfl, rfl⟩
            go_wp2_with fail
            go_round
            case rel => exact ⟨k + 1, by omega, by go_num, HO.out⟩
            case measure => simp [intOf]; omega
          · have HB := Lib.hid (bad_nodes l 0 k hlt (by rw [HS.out]; simp))
            go_wp2_with fail
            refine Calls.mono (cn _) ?_
            rintro e w1 ⟨rfl, rfl⟩
            go_wp2_with fail
            refine Calls.mono ch ?_
            rintro e w1 ⟨rfl, rfl⟩
            go_wp2_with fail
            go_ret
            exact ⟨ret_bool HB.out.symm, rfl⟩
        · have HB := Lib.hid (bad_nodes l 0 k hlt (by rw [HS.out]; simp [hr]))
          simp only [hr, decide_false] at cn
          clear hr
          go_wp2_with fail
          refine Calls.mono (cn _) ?_
          rintro e w1 ⟨rfl, rfl⟩
          go_wp2_with fail
          go_ret
          exact ⟨ret_bool HB.out.symm, rfl⟩
      · obtain rfl : k = l.length := by omega
        have HN := Lib.hid (show nodesB l 0 = true by simp [nodesB, show okK l l.length = true from HK.out, h3'])
        clear hlt
        go_wp2_with fail
        go_ret
        exact ⟨ret_bool HN.out.symm, rfl⟩
end Go.Proofs.Ytjaaddjbmimjoaa
/-
  Which configurations may be: None, Lists, May, over whatever configuration.
-/


namespace Go.Proofs.Ytjaaddjbmimjoaa
open Go.RowKit
set_option linter.unusedVariables false
set_option linter.unusedSimpArgs false

def noneC (c : CF) : Bool := c.e == 0 && (c.b == 0 && (c.k == 0 && (c.M.length == 0 && c.C.length == 0)))
theorem cnoneD (c : CF) (a1 a2 : Option Addr) (q1 q2 : Nat) (w : World) :
    Calls Try.prog 84 #[.agg #[.int .i64 c.e, .int .i64 c.b, .int .i64 c.k, .slice a1 c.M.length q1, .slice a2 c.C.length q2]] w fun ev w' => ev = .returned (.bool (noneC c)) ∧ Below w.heap.size w w' := by
  obtain ⟨e, b, k, M, C⟩ := c
  show Calls Try.prog 84 #[.agg #[.int .i64 e, .int .i64 b, .int .i64 k, .slice a1 M.length q1, .slice a2 C.length q2]] w fun ev w' => ev = .returned (.bool (e == 0 && (b == 0 && (k == 0 && (M.length == 0 && C.length == 0))))) ∧ Below w.heap.size w w'
  generalize M.length = m
  generalize C.length = n
  have hm : ((m : Int) == 0) = (m == 0) := by rw [Bool.eq_iff_iff]; simp
  have hn : ((n : Int) == 0) = (n == 0) := by rw [Bool.eq_iff_iff]; simp
  rcases he : e == 0
  · go_enter Try.func84, Try.ntmps84
    go_wp2_with fail
    go_ret
    exact ⟨rfl, by go_grown⟩
  rcases hb : b == 0
  · go_enter Try.func84, Try.ntmps84
    go_wp2_with fail
    go_ret
    exact ⟨rfl, by go_grown⟩
  rcases hk : k == 0
  · go_enter Try.func84, Try.ntmps84
    go_wp2_with fail
    go_ret
    exact ⟨rfl, by go_grown⟩
  rcases h1 : m == 0
  · rw [h1] at hm
    go_enter Try.func84, Try.ntmps84
    go_wp2_with fail
    go_ret
    exact ⟨rfl, by go_grown⟩
  rcases h2 : n == 0
  · rw [h2] at hn; rw [h1] at hm
    go_enter Try.func84, Try.ntmps84
    go_wp2_with fail
    go_ret
    exact ⟨rfl, by go_grown⟩
  · rw [h2] at hn; rw [h1] at hm
    go_enter Try.func84, Try.ntmps84
    go_wp2_with fail
    go_ret
    exact ⟨rfl, by go_grown⟩
theorem clistsD (u v : Value) (l m : List Int) (w : World) (hu : SR w u 1 l.length (nCells l)) (hv : SR w v 1 m.length (nCells m)) :
    Calls Try.prog 106 #[u, v] w fun e w' => e = .returned (.bool (nodesB l 0 && (nodesB m 0 && decide (0 < m.length)))) ∧ w = w' := by
  have c1 := clist_any u l w hu
  have c2 := clist_any v m w hv
  obtain ⟨a, p, rfl, -, -⟩ := hu.form
  obtain ⟨a', p', rfl, -, -⟩ := hv.form
  clear hu hv
  generalize m.length = n at *
  rcases h1 : nodesB l 0
  · rw [h1] at c1
    go_enter Try.func106, Try.ntmps106
    go_wp2_with fail
    refine Calls.mono c1 ?_
    rintro e w1 ⟨rfl, rfl⟩
    go_wp2_with fail
    go_ret
    exact ⟨rfl, rfl⟩
  rcases h2 : nodesB m 0
  · rw [h1] at c1; rw [h2] at c2
    go_enter Try.func106, Try.ntmps106
    go_wp2_with fail
    refine Calls.mono c1 ?_
    rintro e w1 ⟨rfl, rfl⟩
    go_wp2_with fail
    refine Calls.mono c2 ?_
    rintro e w1 ⟨rfl, rfl⟩
    go_wp2_with fail
    go_ret
    exact ⟨rfl, rfl⟩
  rw [h1] at c1; rw [h2] at c2
  go_enter Try.func106, Try.ntmps106
  go_wp2_with fail
  refine Calls.mono c1 ?_
  rintro e w1 ⟨rfl, rfl⟩
  go_wp2_with fail
  refine Calls.mono c2 ?_
  rintro e w1 ⟨rfl, rfl⟩
  go_wp2_with fail
  go_ret
  refine ⟨ret_bool ?_, rfl⟩
  simp
end Go.Proofs.Ytjaaddjbmimjoaa
/-
  May, over whatever configuration.
-/

namespace Go.Proofs.Ytjaaddjbmimjoaa
open Go.RowKit
set_option linter.unusedVariables false
set_option linter.unusedSimpArgs false

def listsC (M C : List Int) : Bool := nodesB M 0 && (nodesB C 0 && decide (0 < C.length))
def mayC (c : CF) : Bool := noneC c || (decide (0 ≤ c.e) && (decide (c.e ≤ 1048576) && (decide (5 ≤ c.b ∧ c.b ≤ 6) && (decide (1 ≤ c.k) && (decide (c.k ≤ 1048576) && listsC c.M c.C)))))
set_option maxHeartbeats 1600000 in
theorem cmayD (c : CF) (a1 a2 : Option Addr) (q1 q2 : Nat) (w : World) (h : CFat c w (.slice a1 c.M.length q1) (.slice a2 c.C.length q2)) :
    Calls Try.prog 83 #[.agg #[.int .i64 c.e, .int .i64 c.b, .int .i64 c.k, .slice a1 c.M.length q1, .slice a2 c.C.length q2]] w fun ev w' => ev = .returned (.bool (mayC c)) ∧ Below w.heap.size w w' := by
  have cn := cnoneD c a1 a2 q1 q2
  have hr : ∀ t, mayC c = t → mayC c = t := fun _ h => h
  obtain ⟨e, b, k, M, C⟩ := c
  have cg := fun w => cgate_any b w
  have HR := Lib.hid hr
  have HH := Lib.hid h
  clear hr
  simp only at *
  clear h
  rcases hn : noneC ⟨e, b, k, M, C⟩
  · rw [hn] at cn
    go_enter Try.func83, Try.ntmps83
    go_wp2_with fail
    refine Calls.mono (cn _) ?_
    rintro ev w1 ⟨rfl, hb1⟩
    have x1 := below_at hb1 (by simp) (heap_alloc_self w _)
    have e1 : Below w.heap.size w w1 := ((Below.refl _ _).alloc (Nat.le_refl _) _).trans (hb1.mono (by simp))
    have l1 := CFat.below HH.out e1
    have cl := clistsD _ _ M C w1 l1.1 l1.2
    have c0 := cell_atD x1 0 (v := .int .i64 e) rfl
    have c1 := cell_atD x1 1 (v := .int .i64 b) rfl
    have c2 := cell_atD x1 2 (v := .int .i64 k) rfl
    have c3 := cell_atD x1 3 (v := .slice a1 M.length q1) rfl
    have c4 := cell_atD x1 4 (v := .slice a2 C.length q2) rfl
    have E1 := Lib.hid e1
    clear hb1 x1 e1 l1 cn
    rcases d1 : decide (0 ≤ e)
    · have g1 : ¬ (0 ≤ e) := by simpa using d1
      go_wp2_with fail
      go_ret
      exact ⟨ret_bool (by unfold mayC; simp only [hn, d1, Bool.false_or, Bool.false_and, Bool.true_and]), E1.out⟩
    have g1 : 0 ≤ e := by simpa using d1
    rcases d2 : decide (e ≤ 1048576)
    · have g2 : ¬ (e ≤ 1048576) := by simpa using d2
      go_wp2_with fail
      go_ret
      exact ⟨ret_bool (by unfold mayC; simp only [hn, d1, d2, Bool.false_or, Bool.false_and, Bool.true_and]), E1.out⟩
    have g2 : e ≤ 1048576 := by simpa using d2
    rcases d3 : decide (5 ≤ b ∧ b ≤ 6)
    · have g3 : ¬ (5 ≤ b ∧ b ≤ 6) := by simpa using d3
      rw [d3] at cg
      go_wp2_with fail
      refine Calls.mono (cg _) ?_
      rintro ev w2 ⟨rfl, rfl⟩
      go_wp2_with fail
      go_ret
      exact ⟨ret_bool (by unfold mayC; simp only [hn, d1, d2, d3, Bool.false_or, Bool.false_and, Bool.true_and]), E1.out⟩
    have g3 : 5 ≤ b ∧ b ≤ 6 := by simpa using d3
    rw [d3] at cg
    rcases d4 : decide (1 ≤ k)
    · have g4 : ¬ (1 ≤ k) := by simpa using d4
      go_wp2_with fail
      refine Calls.mono (cg _) ?_
      rintro ev w2 ⟨rfl, rfl⟩
      go_wp2_with fail
      go_ret
      exact ⟨ret_bool (by unfold mayC; simp only [hn, d1, d2, d3, d4, Bool.false_or, Bool.false_and, Bool.true_and]), E1.out⟩
    have g4 : 1 ≤ k := by simpa using d4
    rcases d5 : decide (k ≤ 1048576)
    · have g5 : ¬ (k ≤ 1048576) := by simpa using d5
      go_wp2_with fail
      refine Calls.mono (cg _) ?_
      rintro ev w2 ⟨rfl, rfl⟩
      go_wp2_with fail
      go_ret
      exact ⟨ret_bool (by unfold mayC; simp only [hn, d1, d2, d3, d4, d5, Bool.false_or, Bool.false_and, Bool.true_and]), E1.out⟩
    have g5 : k ≤ 1048576 := by simpa using d5
    go_wp2_with fail
    refine Calls.mono (cg _) ?_
    rintro ev w2 ⟨rfl, rfl⟩
    go_wp2_with fail
    refine Calls.mono cl ?_
    rintro ev w2 ⟨rfl, rfl⟩
    go_wp2_with fail
    go_ret
    exact ⟨ret_bool (by unfold mayC listsC; simp only [hn, d1, d2, d3, d4, d5, Bool.false_or, Bool.false_and, Bool.true_and]), E1.out⟩
  · rw [hn] at cn
    go_enter Try.func83, Try.ntmps83
    go_wp2_with fail
    refine Calls.mono (cn _) ?_
    rintro ev w1 ⟨rfl, hb1⟩
    have e1 : Below w.heap.size w w1 := ((Below.refl _ _).alloc (Nat.le_refl _) _).trans (hb1.mono (by simp))
    have E1 := Lib.hid e1
    clear hb1 e1
    go_wp2_with fail
    go_ret
    exact ⟨ret_bool (by simp [mayC, hn]), E1.out⟩
end Go.Proofs.Ytjaaddjbmimjoaa
