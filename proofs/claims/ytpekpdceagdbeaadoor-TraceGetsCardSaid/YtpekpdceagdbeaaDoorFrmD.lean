/-
  tarnref03.Take; frames behind one another, as data.
-/
import Derived.Test.YtpekpdceagdbeaaDoorRefE
import Derived.Test.YtpekpdceagdbeaaDoorFrmB
namespace Go.Proofs.YtpekpdceagdbeaaDoor
open Go.RowKit
set_option linter.unusedVariables false
set_option linter.unusedSimpArgs false

set_option maxHeartbeats 1600000 in
theorem rtake3 (r : RS) (w : World) (hok : ROk r) (hl : r.s.length ≤ 1000000) : Calls Tryd.prog 88 #[rC r] w fun e w' => e = .returned (.tuple #[rC r.frmS, .string ⟨r.frmB.toArray⟩]) ∧ Below w.heap.size w w' := by
  have cn := fun w => rtext r w hok hl
  have hokq := hok.text
  have hlq := Nat.le_trans (textS_len r) hl
  have hlen := textB_len r
  have hFS : r.frmS = if r.frm2.e = 0 ∧ (r.textS 16384).wordV ≠ ofN (r.textB 16384) then r.frm2.fail 30 else r.frm2 := rfl
  have hFB : r.frmB = if r.frmS.e ≠ 0 then [] else r.textB 16384 := rfl
  have hF2 : r.frm2 = (r.textS 16384).takeS 4 := rfl
  obtain ⟨Z, hZ⟩ : ∃ F, r.frmS = F := ⟨_, rfl⟩
  obtain ⟨Y, hY⟩ : ∃ F, r.frmB = F := ⟨_, rfl⟩
  rw [hZ] at hFS hFB
  rw [hY] at hFB
  rw [hZ, hY]
  rw [hF2] at hFS
  obtain ⟨F, hF⟩ : ∃ F, r.textS 16384 = F := ⟨_, rfl⟩
  obtain ⟨X, hX⟩ : ∃ V, r.textB 16384 = V := ⟨_, rfl⟩
  rw [hF] at hokq hlq hFS
  rw [hX] at hFS hFB hlen
  simp only [hF, hX] at cn
  have cw := fun w => rword F w hokq hlq
  obtain ⟨G, hG⟩ : ∃ G, F.takeS 4 = G := ⟨_, rfl⟩
  obtain ⟨V, hV⟩ : ∃ G, F.wordV = G := ⟨_, rfl⟩
  obtain ⟨O, hO⟩ : ∃ G, ofN X = G := ⟨_, rfl⟩
  simp only [hG, hV] at cw
  rw [hG, hV, hO] at hFS
  have co := fun w => refof_any X w (by omega)
  simp only [hO] at co
  have cf := fun w => rfail G 30 w
  have HFS := Lib.hid (And.intro hFS hFB)
  clear hF2 hZ hY hF hX hG hV hO hokq hlq hok hl hlen hFS hFB
  obtain ⟨s, er⟩ := r
  unfold rC at cn cw cf ⊢
  simp only at cn ⊢
  obtain ⟨h1, h2, hb⟩ := two_alloc w #[.string ⟨s.toArray⟩, .int .i64 er] #[.string ⟨#[]⟩, .int .i64 0] 123
  go_enter Tryd.func88, Tryd.ntmps88
  go_upto_region 1 with fail
  generalize (w.alloc (.cells #[.string ⟨s.toArray⟩, .int .i64 er] 123)).alloc (.cells #[.string ⟨#[]⟩, .int .i64 0] 123) = w1 at *
  have c0 := cell_at h1 0 (v := .string ⟨s.toArray⟩) rfl
  have c1 := cell_at h1 1 (v := .int .i64 er) rfl
  have H2 := Lib.hid (And.intro h2 hb)
  clear h1 h2 hb
  go_wp2_with fail
  refine Calls.mono (cn w1) ?_
  rintro e w2 ⟨rfl, hb2⟩
  have hba := hb2.alloc hb2.size (.cells #[.string ⟨F.s.toArray⟩, .int .i64 F.e] 123)
  have hc := heap_alloc_self w2 (.cells #[.string ⟨F.s.toArray⟩, .int .i64 F.e] 123)
  have h2 := below_at hba (lt_heap H2.out.1) H2.out.1
  have HB := Lib.hid (H2.out.2.trans (hba.mono H2.out.2.size))
  have hne : w.heap.size + 1 ≠ w2.heap.size := by have := lt_heap H2.out.1; have := hb2.size; omega
  have hCw : w.heap.size ≤ w2.heap.size := by have := lt_heap H2.out.1; have := hb2.size; omega
  clear hb2 hba c0 c1
  go_upto_region 2 with fail
  generalize w2.alloc (.cells #[.string ⟨F.s.toArray⟩, .int .i64 F.e] 123) = w3 at *
  obtain ⟨C, hC⟩ : ∃ C, w2.heap.size = C := ⟨_, rfl⟩
  obtain ⟨B, hB⟩ : ∃ B, w.heap.size + 1 = B := ⟨_, rfl⟩
  have hBB : w.heap.size ≤ B := by omega
  rw [hC] at hc hne hCw
  rw [hB] at h2 hne
  simp only [hC, hB]
  have c0 := cell_at hc 0 (v := .string ⟨F.s.toArray⟩) rfl
  have c1 := cell_at hc 1 (v := .int .i64 F.e) rfl
  have H3 := Lib.hid (And.intro hc h2)
  clear h2 hc hB hC H2
  go_wp2_with fail
  refine Calls.mono (cw _) ?_
  rintro e w4 ⟨rfl, hb4⟩
  have h4 := below_at hb4 (lt_heap H3.out.2) H3.out.2
  have hc4 := below_at hb4 (lt_heap H3.out.1) H3.out.1
  have HB4 := Lib.hid (HB.out.trans (hb4.mono HB.out.size))
  clear c0 c1
  have c0 := cell_at hc4 0 (v := .string ⟨F.s.toArray⟩) rfl
  have c1 := cell_at hc4 1 (v := .int .i64 F.e) rfl
  have g0 := r_frz hc4 0
  have g1 := r_frz hc4 1
  have HG := Lib.hid (r_end hc4 HB4.out hCw G)
  have h5 := (heap_setCell_other (w4.setCell ⟨C, 0, none⟩ (.string ⟨G.s.toArray⟩)) ⟨C, 1, none⟩ B (.int .i64 G.e) hne).trans ((heap_setCell_other w4 ⟨C, 0, none⟩ B (.string ⟨G.s.toArray⟩) hne).trans h4)
  have H5 := Lib.hid h5
  clear h4 hc4 hb4 H3 HB h5
  go_upto_region 3 with fail
  generalize ((w4.setCell ⟨C, 0, none⟩ (.string ⟨G.s.toArray⟩)).setCell ⟨C, 1, none⟩ (.int .i64 G.e)) = w5 at *
  obtain ⟨k0, k1, hb5, hc5⟩ := HG.out
  clear c0 c1 g0 g1 HG
  have d0 := cell_at H5.out 0 (v := .string ⟨#[]⟩) rfl
  have d1 := cell_at H5.out 1 (v := .int .i64 0) rfl
  have f0 := r_frz H5.out 0
  have f1 := r_frz H5.out 1
  have HE := Lib.hid (r_end H5.out hb5 hBB G)
  have H6 := Lib.hid (And.intro hc5 hb5)
  clear hc5 hb5
  by_cases hE0 : G.e = 0
  · have hq1 : (G.e == 0) = true := by simp [hE0]
    have hq2 : (G.e != 0) = false := by simp [hE0]
    by_cases hvo : V = O
    · have hn : ((V : Int) != O) = false := by simp [hvo]
      have hn2 : (V != O) = false := by simp [hvo]
      have hz := HFS.out.1
      rw [if_neg (fun q => q.2 hvo)] at hz
      have hy := HFS.out.2
      rw [hz, if_neg (by simpa using hE0)] at hy
      have HZ := Lib.hid (And.intro hz hy)
      clear hz hy hE0 hvo
      go_wp2_with fail
      refine Calls.mono (co _) ?_
      rintro e wz ⟨rfl, rfl⟩
      go_wp2_with fail
      obtain ⟨s0, s1, hbf, -⟩ := HE.out
      generalize ((w5.setCell ⟨B, 0, none⟩ (.string ⟨G.s.toArray⟩)).setCell ⟨B, 1, none⟩ (.int .i64 G.e)) = w7 at *
      refine bodyPost_ret (v := .tuple #[.agg #[.string ⟨G.s.toArray⟩, .int .i64 G.e], .string ⟨X.toArray⟩]) (by simp [results, Tryd.results88, go_sem, s0, s1]) rfl ?_
      exact ⟨by rw [HZ.out.1, HZ.out.2], hbf⟩
    · have hn : ((V : Int) != O) = true := by simp; omega
      have hn2 : (V != O) = true := by simpa using hvo
      have hz := HFS.out.1
      rw [if_pos ⟨hE0, hvo⟩] at hz
      have hze : Z.e = 30 := by rw [hz]; unfold RS.fail; rw [if_pos ⟨hE0, by decide⟩]
      have hy := HFS.out.2
      rw [if_pos (by rw [hze]; decide)] at hy
      simp only [← hz] at cf
      have HZ := Lib.hid (And.intro hz (And.intro hze hy))
      clear hz hy hE0 hvo hze
      go_wp2_with fail
      refine Calls.mono (co _) ?_
      rintro e wz ⟨rfl, rfl⟩
      go_wp2_with fail
      refine Calls.mono (cf _) ?_
      rintro e w6 ⟨rfl, hb6⟩
      have h6 := below_at hb6 (lt_heap H5.out) H5.out
      have hc6 := below_at hb6 (lt_heap H6.out.1) H6.out.1
      have hbb := H6.out.2.trans (hb6.mono H6.out.2.size)
      clear k0 k1 d0 d1 f0 f1
      have k0 := cell_at hc6 0 (v := .string ⟨G.s.toArray⟩) rfl
      have k1 := cell_at hc6 1 (v := .int .i64 G.e) rfl
      have g0 := r_frz hc6 0
      have g1 := r_frz hc6 1
      have HG := Lib.hid (r_end hc6 hbb hCw Z)
      have h7 := (heap_setCell_other (w6.setCell ⟨C, 0, none⟩ (.string ⟨Z.s.toArray⟩)) ⟨C, 1, none⟩ B (.int .i64 Z.e) hne).trans ((heap_setCell_other w6 ⟨C, 0, none⟩ B (.string ⟨Z.s.toArray⟩) hne).trans h6)
      have H7 := Lib.hid h7
      clear h6 hc6 hbb hb6 h7 H5 H6 HE
      go_upto_region 5 with fail
      generalize ((w6.setCell ⟨C, 0, none⟩ (.string ⟨Z.s.toArray⟩)).setCell ⟨C, 1, none⟩ (.int .i64 Z.e)) = w8 at *
      obtain ⟨m0, m1, hb8, hc8⟩ := HG.out
      have d0 := cell_at H7.out 0 (v := .string ⟨#[]⟩) rfl
      have d1 := cell_at H7.out 1 (v := .int .i64 0) rfl
      have f0 := r_frz H7.out 0
      have f1 := r_frz H7.out 1
      have HE := Lib.hid (r_end H7.out hb8 hBB Z)
      have hz1 : (Z.e != 0) = true := by rw [HZ.out.2.1]; rfl
      clear k0 k1 g0 g1 HG hb8 hc8
      go_wp2_with fail
      obtain ⟨s0, s1, hbf, -⟩ := HE.out
      generalize ((w8.setCell ⟨B, 0, none⟩ (.string ⟨Z.s.toArray⟩)).setCell ⟨B, 1, none⟩ (.int .i64 Z.e)) = w9 at *
      refine bodyPost_ret (v := .tuple #[.agg #[.string ⟨Z.s.toArray⟩, .int .i64 Z.e], .string ⟨#[]⟩]) (by simp [results, Tryd.results88, go_sem, s0, s1]) rfl ?_
      exact ⟨by rw [HZ.out.2.2], hbf⟩
  · have hq1 : (G.e == 0) = false := by simpa using hE0
    have hq2 : (G.e != 0) = true := by simpa using hE0
    have hz := HFS.out.1
    rw [if_neg (fun q => hE0 q.1)] at hz
    have hy := HFS.out.2
    rw [hz, if_pos hE0] at hy
    have HZ := Lib.hid (And.intro hz hy)
    clear hz hy hE0
    go_wp2_with fail
    obtain ⟨s0, s1, hbf, -⟩ := HE.out
    generalize ((w5.setCell ⟨B, 0, none⟩ (.string ⟨G.s.toArray⟩)).setCell ⟨B, 1, none⟩ (.int .i64 G.e)) = w7 at *
    refine bodyPost_ret (v := .tuple #[.agg #[.string ⟨G.s.toArray⟩, .int .i64 G.e], .string ⟨#[]⟩]) (by simp [results, Tryd.results88, go_sem, s0, s1]) rfl ?_
    exact ⟨by rw [HZ.out.1, HZ.out.2], hbf⟩
end Go.Proofs.YtpekpdceagdbeaaDoor
