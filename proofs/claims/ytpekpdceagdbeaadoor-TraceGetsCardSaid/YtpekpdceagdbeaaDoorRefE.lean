/-
  tarnref01.R: Int, Text; tarnref03.Take.
-/
import Derived.Test.YtpekpdceagdbeaaDoorRefD
namespace Go.Proofs.YtpekpdceagdbeaaDoor
open Go.RowKit
set_option linter.unusedVariables false
set_option linter.unusedSimpArgs false

theorem ROk.num {r : RS} (h : ROk r) (L : Nat) : ROk (r.numS L) := by
  unfold RS.numS numS1
  split
  · exact h.take 1
  · split
    · exact (h.take 1).fail 3
    · unfold numS2
      split
      · exact (h.take 1).take _
      · split
        · exact ((h.take 1).take _).fail 3
        · exact (h.take 1).take _
theorem fail_len (r : RS) (n : Int) : (r.fail n).s.length ≤ r.s.length := by
  unfold RS.fail
  split
  · simp
  · exact Nat.le_refl _
theorem numS_len (r : RS) (L : Nat) : (r.numS L).s.length ≤ r.s.length := by
  unfold RS.numS numS1
  split
  · exact takeS_len r 1
  · split
    · exact Nat.le_trans (fail_len _ _) (takeS_len r 1)
    · unfold numS2
      split
      · exact Nat.le_trans (takeS_len _ _) (takeS_len r 1)
      · split
        · exact Nat.le_trans (fail_len _ _) (Nat.le_trans (takeS_len _ _) (takeS_len r 1))
        · exact Nat.le_trans (takeS_len _ _) (takeS_len r 1)
theorem ROk.text {r : RS} (h : ROk r) : ROk (r.textS 16384) := (h.num _).take _
theorem textS_len (r : RS) : (r.textS 16384).s.length ≤ r.s.length := Nat.le_trans (takeS_len _ _) (numS_len _ _)
set_option maxHeartbeats 1600000 in
theorem rint (r : RS) (w : World) (hok : ROk r) (hl : r.s.length ≤ 1000000) : Calls Tryd.prog 188 #[rC r, .int .i64 16384] w fun e w' => e = .returned (.tuple #[rC (r.numS 16384), .int .i64 (r.numV 16384 : Nat)]) ∧ Below w.heap.size w w' := by
  have cn := fun w => rnum r 16384 w hok hl ⟨by decide, by decide⟩
  have hle := numV_le r 16384
  have ht : (16384 : Int).toNat = 16384 := rfl
  rw [ht] at cn
  obtain ⟨F, hF⟩ : ∃ F, r.numS 16384 = F := ⟨_, rfl⟩
  obtain ⟨V, hV⟩ : ∃ V, r.numV 16384 = V := ⟨_, rfl⟩
  simp only [hF, hV] at cn
  rw [hV] at hle
  rw [hF, hV]
  clear hF hV hok hl ht
  have hw1 : IntKind.i64.wrap (V : Int) = (V : Int) := by rw [IntKind.wrap_i64]; omega
  have hw2 : IntKind.u64.wrap (16384 : Int) = 16384 := by decide
  obtain ⟨s, er⟩ := r
  unfold rC at cn ⊢
  simp only at cn ⊢
  obtain ⟨h1, h2, hb⟩ := two_alloc w #[.string ⟨s.toArray⟩, .int .i64 er] #[.string ⟨#[]⟩, .int .i64 0] 123
  go_enter Tryd.func188, Tryd.ntmps188
  go_upto_region 1 with fail
  generalize (w.alloc (.cells #[.string ⟨s.toArray⟩, .int .i64 er] 123)).alloc (.cells #[.string ⟨#[]⟩, .int .i64 0] 123) = w1 at *
  have c0 := cell_at h1 0 (v := .string ⟨s.toArray⟩) rfl
  have c1 := cell_at h1 1 (v := .int .i64 er) rfl
  have H2 := Lib.hid (And.intro h2 hb)
  clear h1 h2 hb
  go_wp2_with fail
  refine Calls.mono (cn w1) ?_
  rintro e w2 ⟨rfl, hb2⟩
  have hba := hb2.alloc hb2.size (.cells #[.string ⟨F.s.toArray⟩, .int .i64 F.e] 123)
  have hc := heap_alloc_self w2 (.cells #[.string ⟨F.s.toArray⟩, .int .i64 F.e] 123)
  have h2 := below_at hba (lt_heap H2.out.1) H2.out.1
  have HB := Lib.hid (H2.out.2.trans (hba.mono H2.out.2.size))
  clear hb2 hba c0 c1
  go_upto_region 5 with fail
  generalize w2.alloc (.cells #[.string ⟨F.s.toArray⟩, .int .i64 F.e] 123) = w3 at *
  obtain ⟨C, hC⟩ : ∃ C, w2.heap.size = C := ⟨_, rfl⟩
  obtain ⟨B, hB⟩ : ∃ B, w.heap.size + 1 = B := ⟨_, rfl⟩
  have hBB : w.heap.size ≤ B := by omega
  rw [hC] at hc
  rw [hB] at h2
  simp only [hC, hB]
  have c0 := cell_at hc 0 (v := .string ⟨F.s.toArray⟩) rfl
  have c1 := cell_at hc 1 (v := .int .i64 F.e) rfl
  have d0 := cell_at h2 0 (v := .string ⟨#[]⟩) rfl
  have d1 := cell_at h2 1 (v := .int .i64 0) rfl
  have f0 := r_frz h2 0
  have f1 := r_frz h2 1
  have HE := Lib.hid (r_end h2 HB.out hBB F)
  clear h2 hc hB hC H2 HB
  go_wp2_with fail
  obtain ⟨s0, s1, hbf, -⟩ := HE.out
  generalize ((w3.setCell ⟨B, 0, none⟩ (.string ⟨F.s.toArray⟩)).setCell ⟨B, 1, none⟩ (.int .i64 F.e)) = w5 at *
  refine bodyPost_ret (v := .tuple #[.agg #[.string ⟨F.s.toArray⟩, .int .i64 F.e], .int .i64 V]) (by simp [results, Tryd.results188, go_sem, s0, s1]) rfl ?_
  exact ⟨rfl, hbf⟩
set_option maxHeartbeats 1600000 in
theorem rtext (r : RS) (w : World) (hok : ROk r) (hl : r.s.length ≤ 1000000) : Calls Tryd.prog 144 #[rC r, .int .i64 16384] w fun e w' => e = .returned (.tuple #[rC (r.textS 16384), .string ⟨(r.textB 16384).toArray⟩]) ∧ Below w.heap.size w w' := by
  have cn := fun w => rint r w hok hl
  have ht : (min (16384 : Int) 65536).toNat = 16384 := rfl
  have hokq := hok.num 16384
  have hlq := Nat.le_trans (numS_len r 16384) hl
  unfold RS.textS RS.textB
  rw [ht]
  obtain ⟨F, hF⟩ : ∃ F, r.numS 16384 = F := ⟨_, rfl⟩
  obtain ⟨V, hV⟩ : ∃ V, r.numV 16384 = V := ⟨_, rfl⟩
  rw [hF] at hokq hlq
  simp only [hF, hV] at cn
  rw [hF, hV]
  have ck := fun w => rtake F (V : Int) w hokq hlq
  obtain ⟨G, hG⟩ : ∃ G, F.takeS (V : Int) = G := ⟨_, rfl⟩
  obtain ⟨X, hX⟩ : ∃ G, F.takeB (V : Int) = G := ⟨_, rfl⟩
  simp only [hG, hX] at ck
  rw [hG, hX]
  clear hF hV hok hl ht hokq hlq hG hX
  obtain ⟨s, er⟩ := r
  unfold rC at cn ck ⊢
  simp only at cn ⊢
  obtain ⟨h1, h2, hb⟩ := two_alloc w #[.string ⟨s.toArray⟩, .int .i64 er] #[.string ⟨#[]⟩, .int .i64 0] 123
  go_enter Tryd.func144, Tryd.ntmps144
  go_upto_region 1 with fail
  generalize (w.alloc (.cells #[.string ⟨s.toArray⟩, .int .i64 er] 123)).alloc (.cells #[.string ⟨#[]⟩, .int .i64 0] 123) = w1 at *
  have c0 := cell_at h1 0 (v := .string ⟨s.toArray⟩) rfl
  have c1 := cell_at h1 1 (v := .int .i64 er) rfl
  have H2 := Lib.hid (And.intro h2 hb)
  clear h1 h2 hb
  go_wp2_with fail
  refine Calls.mono (cn w1) ?_
  rintro e w2 ⟨rfl, hb2⟩
  have hba := hb2.alloc hb2.size (.cells #[.string ⟨F.s.toArray⟩, .int .i64 F.e] 123)
  have hc := heap_alloc_self w2 (.cells #[.string ⟨F.s.toArray⟩, .int .i64 F.e] 123)
  have h2 := below_at hba (lt_heap H2.out.1) H2.out.1
  have HB := Lib.hid (H2.out.2.trans (hba.mono H2.out.2.size))
  clear hb2 hba c0 c1
  go_upto_region 2 with fail
  generalize w2.alloc (.cells #[.string ⟨F.s.toArray⟩, .int .i64 F.e] 123) = w3 at *
  obtain ⟨C, hC⟩ : ∃ C, w2.heap.size = C := ⟨_, rfl⟩
  obtain ⟨B, hB⟩ : ∃ B, w.heap.size + 1 = B := ⟨_, rfl⟩
  have hBB : w.heap.size ≤ B := by omega
  rw [hC] at hc
  rw [hB] at h2
  simp only [hC, hB]
  have c0 := cell_at hc 0 (v := .string ⟨F.s.toArray⟩) rfl
  have c1 := cell_at hc 1 (v := .int .i64 F.e) rfl
  have H3 := Lib.hid h2
  clear h2 hc hB hC H2
  go_wp2_with fail
  refine Calls.mono (ck _) ?_
  rintro e w4 ⟨rfl, hb4⟩
  have h4 := below_at hb4 (lt_heap H3.out) H3.out
  have d0 := cell_at h4 0 (v := .string ⟨#[]⟩) rfl
  have d1 := cell_at h4 1 (v := .int .i64 0) rfl
  have f0 := r_frz h4 0
  have f1 := r_frz h4 1
  have HE := Lib.hid (r_end h4 (HB.out.trans (hb4.mono HB.out.size)) hBB G)
  clear h4 hb4 H3 HB c0 c1
  go_wp2_with fail
  obtain ⟨s0, s1, hbf, -⟩ := HE.out
  generalize ((w4.setCell ⟨B, 0, none⟩ (.string ⟨G.s.toArray⟩)).setCell ⟨B, 1, none⟩ (.int .i64 G.e)) = w5 at *
  refine bodyPost_ret (v := .tuple #[.agg #[.string ⟨G.s.toArray⟩, .int .i64 G.e], .string ⟨X.toArray⟩]) (by simp [results, Tryd.results144, go_sem, s0, s1]) rfl ?_
  exact ⟨rfl, hbf⟩
end Go.Proofs.YtpekpdceagdbeaaDoor
