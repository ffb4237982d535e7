/-
  tarnref01.R: Take, value, Word.
-/
import Derived.Test.YtpekpdceagdbeaaDoorRef
namespace Go.Proofs.YtpekpdceagdbeaaDoor
open Go.RowKit
set_option linter.unusedVariables false
set_option linter.unusedSimpArgs false

theorem rt_ok {s : List UInt8} {e n : Int} (h : ROk ⟨s, e⟩) (h0 : 0 ≤ n) (h1 : n ≤ s.length) : (⟨s, e⟩ : RS).takeS n = ⟨s.drop n.toNat, e⟩ ∧ (⟨s, e⟩ : RS).takeB n = s.take n.toNat := by
  have hb : ¬ (n < 0 ∨ (s.length : Int) < n) := by omega
  unfold RS.takeS RS.takeB
  simp only
  rcases h with h | h
  · have h : e = 0 := h
    subst h
    rw [if_neg (by simp), if_neg hb, if_neg (by simp), if_neg hb]
    exact ⟨rfl, rfl⟩
  · have h : s = [] := h
    subst h
    by_cases he : e = 0
    · subst he
      rw [if_neg (by simp), if_neg hb, if_neg (by simp), if_neg hb]
      exact ⟨rfl, rfl⟩
    · rw [if_pos he, if_pos he]
      exact ⟨by simp, by simp⟩
theorem rt_bad {s : List UInt8} {e n : Int} (h : n < 0 ∨ (s.length : Int) < n) : (⟨s, e⟩ : RS).takeS n = (⟨s, e⟩ : RS).fail 2 ∧ (⟨s, e⟩ : RS).takeB n = [] := by
  unfold RS.takeS RS.takeB
  simp only
  by_cases he : e = 0
  · subst he
    rw [if_neg (by simp), if_pos h, if_neg (by simp), if_pos h]
    exact ⟨rfl, rfl⟩
  · rw [if_pos he, if_pos he]
    refine ⟨?_, rfl⟩
    unfold RS.fail
    rw [if_neg (fun q => he q.1)]
set_option maxHeartbeats 1600000 in
theorem rtake (r : RS) (n : Int) (w : World) (hok : ROk r) (hl : r.s.length ≤ 1000000) : Calls Tryd.prog 189 #[rC r, .int .i64 n] w fun e w' => e = .returned (.tuple #[rC (r.takeS n), .string ⟨(r.takeB n).toArray⟩]) ∧ Below w.heap.size w w' := by
  obtain ⟨s, er⟩ := r
  simp only at hl
  unfold rC
  simp only
  obtain ⟨h1, h2, hb⟩ := two_alloc w #[.string ⟨s.toArray⟩, .int .i64 er] #[.string ⟨#[]⟩, .int .i64 0] 123
  by_cases hg : 0 ≤ n ∧ n ≤ s.length
  · obtain ⟨g0, g1⟩ := hg
    obtain ⟨e1, e2⟩ := rt_ok hok g0 g1
    rw [e1, e2]
    simp only
    obtain ⟨m, rfl⟩ : ∃ m : Nat, n = m := ⟨n.toNat, by omega⟩
    rw [Int.toNat_natCast]
    have hm : m ≤ s.length := by omega
    obtain ⟨X, hX⟩ : ∃ X, (⟨s.toArray⟩ : ByteArray) = X := ⟨_, rfl⟩
    have hXs : X.size = s.length := by rw [← hX]; simp [ByteArray.size]
    have hD : (⟨(s.drop m).toArray⟩ : ByteArray) = X.extract m X.size := by rw [hXs, ← hX, str_drop]
    have hT : (⟨(s.take m).toArray⟩ : ByteArray) = X.extract 0 m := by rw [← hX, str_take]
    rw [hD, hT, hX]
    rw [hX] at h1 h2 hb
    have n0 : decide ((m : Int) < 0) = false := decide_eq_false (by omega)
    have n1 : decide ((m : Int) > X.size) = false := decide_eq_false (by omega)
    have n2 : ¬ (m : Int) < 0 := by omega
    have n3 : ¬ (X.size : Int) < m := by omega
    have n4 : (m : Int) ≤ X.size := by omega
    have n5 : (0 : Int) ≤ m := by omega
    have n6 : m ≤ X.size := by omega
    have n7 : ¬ X.size < m := by omega
    clear hD hT e1 e2 hok g0 g1 hX hXs
    go_enter Tryd.func189, Tryd.ntmps189
    go_upto_region 1 with fail
    generalize (w.alloc (.cells #[.string X, .int .i64 er] 123)).alloc (.cells #[.string ⟨#[]⟩, .int .i64 0] 123) = w1 at *
    have c0 := cell_at h1 0 (v := .string X) rfl
    have c1 := cell_at h1 1 (v := .int .i64 er) rfl
    have d0 := cell_at h2 0 (v := .string ⟨#[]⟩) rfl
    have d1 := cell_at h2 1 (v := .int .i64 0) rfl
    have HS := Lib.hid (set_two (u := .string (X.extract m X.size)) (v := .int .i64 er) h2)
    have HB := Lib.hid ((hb.setCell (p := ⟨w.heap.size + 1, 0, none⟩) (by show w.heap.size ≤ w.heap.size + 1; omega) (.string (X.extract m X.size))).setCell (p := ⟨w.heap.size + 1, 1, none⟩) (by show w.heap.size ≤ w.heap.size + 1; omega) (.int .i64 er))
    have f0 : w1.frozen? ⟨w.heap.size + 1, 0, none⟩ = false := by simp [World.frozen?, h2]
    have f1 : w1.frozen? ⟨w.heap.size + 1, 1, none⟩ = false := by simp [World.frozen?, h2]
    clear h1 h2 hb
    go_upto_region 3 with fail
    go_region
    all_goals
      go_wp2_with fail
      have s0 : (((w1.setCell ⟨w.heap.size + 1, 0, none⟩ (.string (X.extract m X.size))).setCell ⟨w.heap.size + 1, 1, none⟩ (.int .i64 er)).drew).cell? ⟨w.heap.size + 1, 0, none⟩ = some (.string (X.extract m X.size)) := cell_at HS.out 0 rfl
      have s1 : (((w1.setCell ⟨w.heap.size + 1, 0, none⟩ (.string (X.extract m X.size))).setCell ⟨w.heap.size + 1, 1, none⟩ (.int .i64 er)).drew).cell? ⟨w.heap.size + 1, 1, none⟩ = some (.int .i64 er) := cell_at HS.out 1 rfl
      have HB2 := Lib.hid (below_drew' HB.out)
      generalize ((w1.setCell ⟨w.heap.size + 1, 0, none⟩ (.string (X.extract m X.size))).setCell ⟨w.heap.size + 1, 1, none⟩ (.int .i64 er)).drew = w2 at *
      refine bodyPost_ret (v := .tuple #[.agg #[.string (X.extract m X.size), .int .i64 er], .string (X.extract 0 m)]) (by simp [results, Tryd.results189, go_sem, s0, s1]) rfl ?_
      exact ⟨rfl, HB2.out⟩
  · have hbad : n < 0 ∨ (s.length : Int) < n := by omega
    obtain ⟨e1, e2⟩ := rt_bad (s := s) (e := er) hbad
    rw [e1, e2]
    have cf := fun w => rfail ⟨s, er⟩ 2 w
    unfold rC at cf
    simp only at cf
    obtain ⟨F, hF⟩ : ∃ F, (⟨s, er⟩ : RS).fail 2 = F := ⟨_, rfl⟩
    rw [hF] at cf ⊢
    have hc : decide (n < 0) = true ∨ decide (n < 0) = false ∧ decide (n > (s.length : Int)) = true := by
      rcases hbad with q | q
      · exact .inl (decide_eq_true q)
      · by_cases h0 : n < 0
        · exact .inl (decide_eq_true h0)
        · exact .inr ⟨decide_eq_false h0, decide_eq_true q⟩
    clear e1 e2 hok hbad hg hF
    go_enter Tryd.func189, Tryd.ntmps189
    go_upto_region 1 with fail
    generalize (w.alloc (.cells #[.string ⟨s.toArray⟩, .int .i64 er] 123)).alloc (.cells #[.string ⟨#[]⟩, .int .i64 0] 123) = w1 at *
    have c0 := cell_at h1 0 (v := .string ⟨s.toArray⟩) rfl
    have c1 := cell_at h1 1 (v := .int .i64 er) rfl
    have H2 := Lib.hid (And.intro h2 hb)
    clear h1 h2 hb
    rcases hc with q | ⟨q, q2⟩
    all_goals
      first | (have q3 : n < 0 := by simpa using q) | (have q3 : ¬ n < 0 := by simpa using q)
      try have q4 : (s.length : Int) < n := by simpa using q2
      go_wp2_with fail
      refine Calls.mono (cf _) ?_
      rintro e w2 ⟨rfl, hb2⟩
      have h2 := below_at hb2 (lt_heap H2.out.1) H2.out.1
      have hb := H2.out.2.trans (hb2.mono H2.out.2.size)
      have d0 := cell_at h2 0 (v := .string ⟨#[]⟩) rfl
      have d1 := cell_at h2 1 (v := .int .i64 0) rfl
      have HS := Lib.hid (set_two (u := .string ⟨F.s.toArray⟩) (v := .int .i64 F.e) h2)
      have HB := Lib.hid ((hb.setCell (p := ⟨w.heap.size + 1, 0, none⟩) (by show w.heap.size ≤ w.heap.size + 1; omega) (.string ⟨F.s.toArray⟩)).setCell (p := ⟨w.heap.size + 1, 1, none⟩) (by show w.heap.size ≤ w.heap.size + 1; omega) (.int .i64 F.e))
      have f0 : w2.frozen? ⟨w.heap.size + 1, 0, none⟩ = false := by simp [World.frozen?, h2]
      have f1 : w2.frozen? ⟨w.heap.size + 1, 1, none⟩ = false := by simp [World.frozen?, h2]
      clear h2 hb hb2
      go_wp2_with fail
      have s0 := cell_at HS.out 0 (v := .string ⟨F.s.toArray⟩) rfl
      have s1 := cell_at HS.out 1 (v := .int .i64 F.e) rfl
      generalize ((w2.setCell ⟨w.heap.size + 1, 0, none⟩ (.string ⟨F.s.toArray⟩)).setCell ⟨w.heap.size + 1, 1, none⟩ (.int .i64 F.e)) = w3 at *
      refine bodyPost_ret (v := .tuple #[.agg #[.string ⟨F.s.toArray⟩, .int .i64 F.e], .string ⟨#[]⟩]) (by simp [results, Tryd.results189, go_sem, s0, s1]) rfl ?_
      exact ⟨rfl, HB.out⟩
end Go.Proofs.YtpekpdceagdbeaaDoor
