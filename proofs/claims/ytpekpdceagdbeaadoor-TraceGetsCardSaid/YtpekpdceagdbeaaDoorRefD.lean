/-
  tarnref01.R: Num.
-/
import Derived.Test.YtpekpdceagdbeaaDoorRefC
namespace Go.Proofs.YtpekpdceagdbeaaDoor
open Go.RowKit
set_option linter.unusedVariables false
set_option linter.unusedSimpArgs false

theorem r_end {w wx : World} {B : Nat} {x : Value} {y : Value} {t : TypeId} (h : wx.heap[B]? = some (.cells #[x, y] t)) (hb : Below w.heap.size w wx) (hB : w.heap.size ≤ B) (F : RS) :
    ((wx.setCell ⟨B, 0, none⟩ (.string ⟨F.s.toArray⟩)).setCell ⟨B, 1, none⟩ (.int .i64 F.e)).cell? ⟨B, 0, none⟩ = some (.string ⟨F.s.toArray⟩) ∧ ((wx.setCell ⟨B, 0, none⟩ (.string ⟨F.s.toArray⟩)).setCell ⟨B, 1, none⟩ (.int .i64 F.e)).cell? ⟨B, 1, none⟩ = some (.int .i64 F.e) ∧ Below w.heap.size w ((wx.setCell ⟨B, 0, none⟩ (.string ⟨F.s.toArray⟩)).setCell ⟨B, 1, none⟩ (.int .i64 F.e)) ∧ ((wx.setCell ⟨B, 0, none⟩ (.string ⟨F.s.toArray⟩)).setCell ⟨B, 1, none⟩ (.int .i64 F.e)).heap[B]? = some (.cells #[.string ⟨F.s.toArray⟩, .int .i64 F.e] t) := by
  have hs := set_two (u := .string ⟨F.s.toArray⟩) (v := .int .i64 F.e) h
  exact ⟨cell_at hs 0 rfl, cell_at hs 1 rfl, (hb.setCell (p := ⟨B, 0, none⟩) hB (.string ⟨F.s.toArray⟩)).setCell (p := ⟨B, 1, none⟩) hB (.int .i64 F.e), hs⟩
theorem r_frz {w : World} {B : Nat} {A : Array Value} {t : TypeId} (h : w.heap[B]? = some (.cells A t)) (i : Nat) : w.frozen? ⟨B, i, none⟩ = false := by simp [World.frozen?, h]
theorem takeB_nil {r : RS} {n : Int} (h : (r.takeS n).e ≠ 0) : r.takeB n = [] := by
  unfold RS.takeS at h
  unfold RS.takeB
  by_cases he : r.e = 0
  · rw [if_neg (by simpa using he)] at h ⊢
    by_cases hb : n < 0 ∨ (r.s.length : Int) < n
    · rw [if_pos hb]
    · rw [if_neg hb] at h
      exact absurd he h
  · rw [if_pos he]
theorem takeS_len (r : RS) (n : Int) : (r.takeS n).s.length ≤ r.s.length := by
  unfold RS.takeS RS.fail
  repeat' split
  all_goals simp
set_option maxHeartbeats 3200000 in
set_option maxRecDepth 100000 in
theorem rnum (r : RS) (limit : Int) (w : World) (hok : ROk r) (hl : r.s.length ≤ 1000000) (hU : U64 limit) : Calls Tryd.prog 216 #[rC r, .int .u64 limit] w fun e w' => e = .returned (.tuple #[rC (r.numS limit.toNat), .int .u64 (r.numV limit.toNat : Nat)]) ∧ Below w.heap.size w w' := by
  have hU0 := hU.1
  have ct := fun w => rtake r 1 w hok hl
  have hokp := hok.take 1
  have hlp := Nat.le_trans (takeS_len r 1) hl
  have hlen1 := takeB_len r 1
  have hNS : r.numS limit.toNat = numS1 (r.takeS 1) (r.takeB 1) limit.toNat := rfl
  have hNV : r.numV limit.toNat = numV1 (r.takeS 1) (r.takeB 1) limit.toNat := rfl
  rw [hNS, hNV]
  obtain ⟨p, hp⟩ : ∃ p, r.takeS 1 = p := ⟨_, rfl⟩
  obtain ⟨hd, hhd⟩ : ∃ p, r.takeB 1 = p := ⟨_, rfl⟩
  rw [hp] at hokp hlp ⊢
  rw [hhd] at hlen1 ⊢
  simp only [hp, hhd] at ct
  clear hNS hNV hp hhd hok hl hU
  have ct2 := fun n w => rtake p n w hokp hlp
  have cf := fun w => rfail p 3 w
  obtain ⟨RS', hRS⟩ : ∃ x, numS1 p hd limit.toNat = x := ⟨_, rfl⟩
  obtain ⟨RV, hRV⟩ : ∃ x, numV1 p hd limit.toNat = x := ⟨_, rfl⟩
  rw [hRS, hRV]
  have HR := Lib.hid (And.intro hRS hRV)
  clear hRS hRV
  obtain ⟨s, er⟩ := r
  unfold rC at ct ct2 cf ⊢
  simp only at ct ct2 cf ⊢
  obtain ⟨h1, h2, hb⟩ := two_alloc w #[.string ⟨s.toArray⟩, .int .i64 er] #[.string ⟨#[]⟩, .int .i64 0] 123
  go_enter Tryd.func216, Tryd.ntmps216
  go_upto_region 1 with fail
  generalize (w.alloc (.cells #[.string ⟨s.toArray⟩, .int .i64 er] 123)).alloc (.cells #[.string ⟨#[]⟩, .int .i64 0] 123) = w1 at *
  have c0 := cell_at h1 0 (v := .string ⟨s.toArray⟩) rfl
  have c1 := cell_at h1 1 (v := .int .i64 er) rfl
  have H2 := Lib.hid (And.intro h2 hb)
  clear h1 h2 hb
  go_wp2_with fail
  refine Calls.mono (ct w1) ?_
  rintro e w2 ⟨rfl, hb2⟩
  have hba := hb2.alloc hb2.size (.cells #[.string ⟨p.s.toArray⟩, .int .i64 p.e] 123)
  have hc := heap_alloc_self w2 (.cells #[.string ⟨p.s.toArray⟩, .int .i64 p.e] 123)
  have h2 := below_at hba (lt_heap H2.out.1) H2.out.1
  have HB := Lib.hid (H2.out.2.trans (hba.mono H2.out.2.size))
  have hne : w.heap.size + 1 ≠ w2.heap.size := by have := lt_heap H2.out.1; have := hb2.size; omega
  have hCw : w.heap.size ≤ w2.heap.size := by have := lt_heap H2.out.1; have := hb2.size; omega
  clear hb2 hba c0 c1 ct
  go_upto_region 2 with fail
  generalize w2.alloc (.cells #[.string ⟨p.s.toArray⟩, .int .i64 p.e] 123) = w3 at *
  obtain ⟨C, hC⟩ : ∃ C, w2.heap.size = C := ⟨_, rfl⟩
  obtain ⟨B, hB⟩ : ∃ B, w.heap.size + 1 = B := ⟨_, rfl⟩
  have hBB : w.heap.size ≤ B := by omega
  rw [hC] at hc hne hCw
  rw [hB] at h2 hne
  simp only [hC, hB]
  have c0 := cell_at hc 0 (v := .string ⟨p.s.toArray⟩) rfl
  have c1 := cell_at hc 1 (v := .int .i64 p.e) rfl
  have d0 := cell_at h2 0 (v := .string ⟨#[]⟩) rfl
  have d1 := cell_at h2 1 (v := .int .i64 0) rfl
  have f0 := r_frz h2 0
  have f1 := r_frz h2 1
  have HH := Lib.hid (And.intro hc h2)
  clear h2 hc hB hC H2
  by_cases hne' : hd = []
  · have he : hd.isEmpty = true := by simp [hne']
    have HE := Lib.hid (r_end HH.out.2 HB.out hBB p)
    have HSV := Lib.hid (show RS' = p ∧ RV = 0 from ⟨by rw [← HR.out.1]; unfold numS1; rw [if_pos hne'], by rw [← HR.out.2]; unfold numV1; rw [if_pos hne']⟩)
    clear hne' hlen1
    go_wp2_with fail
    obtain ⟨s0, s1, hbf, -⟩ := HE.out
    generalize ((w3.setCell ⟨B, 0, none⟩ (.string ⟨p.s.toArray⟩)).setCell ⟨B, 1, none⟩ (.int .i64 p.e)) = w5 at *
    refine bodyPost_ret (v := .tuple #[.agg #[.string ⟨p.s.toArray⟩, .int .i64 p.e], .int .u64 0]) (by simp [results, Tryd.results216, go_sem, s0, s1]) rfl ?_
    exact ⟨by rw [HSV.out.1, HSV.out.2]; rfl, hbf⟩
  · obtain ⟨c, rfl⟩ : ∃ c, hd = [c] := by
      cases hd with
      | nil => exact absurd rfl hne'
      | cons c t =>
        cases t with
        | nil => exact ⟨c, rfl⟩
        | cons d u => simp at hlen1
    have hcl := c.toNat_lt
    have hS : numS1 p [c] limit.toNat = if 8 < c.toNat then p.fail 3 else numS2 (p.takeS c.toNat) (p.takeB c.toNat) limit.toNat := by unfold numS1; rw [if_neg (by simp)]; rfl
    have hV : numV1 p [c] limit.toNat = if 8 < c.toNat then 0 else numV2 (p.takeB c.toNat) limit.toNat := by unfold numV1; rw [if_neg (by simp)]; rfl
    rw [HR.out.1] at hS
    rw [HR.out.2] at hV
    have hix := str_idx [c] 0
    have hgc : [c].getD 0 0 = c := rfl
    rw [hgc] at hix
    clear hne' hlen1 hgc
    by_cases hc8 : 8 < c.toNat
    · have hc8' : (8 : Int) < (c.toNat : Int) := by omega
      rw [if_pos hc8] at hS hV
      obtain ⟨F, hF⟩ : ∃ F, p.fail 3 = F := ⟨_, rfl⟩
      simp only [hF] at cf
      rw [hF] at hS
      have HSV := Lib.hid (And.intro hS hV)
      clear hF hS hV
      go_wp2_with fail
      refine Calls.mono (cf _) ?_
      rintro e w4 ⟨rfl, hb4⟩
      have h4 := below_at hb4 (lt_heap HH.out.2) HH.out.2
      have HE := Lib.hid (r_end h4 (HB.out.trans (hb4.mono HB.out.size)) hBB F)
      have d0 := cell_at h4 0 (v := .string ⟨#[]⟩) rfl
      have d1 := cell_at h4 1 (v := .int .i64 0) rfl
      have f0 := r_frz h4 0
      have f1 := r_frz h4 1
      clear hb4 h4
      go_wp2_with fail
      obtain ⟨s0, s1, hbf, -⟩ := HE.out
      generalize ((w4.setCell ⟨B, 0, none⟩ (.string ⟨F.s.toArray⟩)).setCell ⟨B, 1, none⟩ (.int .i64 F.e)) = w5 at *
      refine bodyPost_ret (v := .tuple #[.agg #[.string ⟨F.s.toArray⟩, .int .i64 F.e], .int .u64 0]) (by simp [results, Tryd.results216, go_sem, s0, s1]) rfl ?_
      exact ⟨by rw [HSV.out.1, HSV.out.2]; rfl, hbf⟩
    · have hc8' : ¬ (8 : Int) < (c.toNat : Int) := by omega
      rw [if_neg hc8] at hS hV
      have hlen2 : (p.takeB c.toNat).length ≤ 8 := by have := takeB_len p c.toNat; omega
      have htn := takeB_nil (r := p) (n := c.toNat)
      have ct3 := fun w => ct2 (c.toNat : Int) w
      obtain ⟨q, hq⟩ : ∃ q, p.takeS (c.toNat : Int) = q := ⟨_, rfl⟩
      obtain ⟨bs, hbs⟩ : ∃ q, p.takeB (c.toNat : Int) = q := ⟨_, rfl⟩
      simp only [hq, hbs] at ct3
      rw [hq, hbs] at hS
      rw [hbs] at hV
      rw [hbs] at hlen2
      rw [hq, hbs] at htn
      have HSV := Lib.hid (And.intro hS hV)
      clear hq hbs ct2 cf hS hV
      have cf := fun w => rfail q 3 w
      unfold rC at cf
      have cv := fun w => rvalue bs w (by omega)
      have hwc : IntKind.i64.wrap (c.toNat : Int) = (c.toNat : Int) := by rw [IntKind.wrap_i64]; omega
      go_upto_region 6 with fail
      go_cut [8] (fun v wx => v = .string ⟨bs.toArray⟩ ∧ Hid (wx.heap[C]? = some (.cells #[.string ⟨q.s.toArray⟩, .int .i64 q.e] 123) ∧ wx.heap[B]? = some (.cells #[.string ⟨#[]⟩, .int .i64 0] 123) ∧ Below w.heap.size w wx))
      case first =>
        go_region_with (go_at_call 189; (with_reducible refine Calls.mono (ct3 _) ?_); rintro e w4 ⟨rfl, hb4⟩; have hc4 := below_at hb4 (lt_heap HH.out.1) HH.out.1; have k0 := cell_at hc4 0 (v := .string ⟨p.s.toArray⟩) rfl; have k1 := cell_at hc4 1 (v := .int .i64 p.e) rfl; have g0 := r_frz hc4 0; have g1 := r_frz hc4 1)
        all_goals
          have h4 := below_at hb4 (lt_heap HH.out.2) HH.out.2
          have hb5 : Below w3.heap.size w3 w4 := ⟨hb4.os, hb4.tape, hb4.output, hb4.size, hb4.block⟩
          have HB4 := Lib.hid (HB.out.trans (hb5.mono HB.out.size))
          have HCQ := Lib.hid (r_end hc4 HB4.out hCw q)
          have h5 := (heap_setCell_other (w4.setCell ⟨C, 0, none⟩ (.string ⟨q.s.toArray⟩)) ⟨C, 1, none⟩ B (.int .i64 q.e) hne).trans ((heap_setCell_other w4 ⟨C, 0, none⟩ B (.string ⟨q.s.toArray⟩) hne).trans h4)
          have HH5 := Lib.hid h5
          clear hb4 hb5 h4 hc4 k0 k1 g0 g1 h5 c0 c1 d0 d1 f0 f1
          go_wp2_with fail
          go_meet
          exact ⟨rfl, Lib.hid ⟨HCQ.out.2.2.2, HH5.out, HCQ.out.2.2.1⟩⟩
      case rest =>
        obtain ⟨rfl, HW⟩ := hcut
        obtain ⟨W4, hW4⟩ : ∃ W, W = wc := ⟨_, rfl⟩
        subst hW4
        clear c0 c1 d0 d1 f0 f1 HH HB ct3
        have c0 := cell_at HW.out.1 0 (v := .string ⟨q.s.toArray⟩) rfl
        have c1 := cell_at HW.out.1 1 (v := .int .i64 q.e) rfl
        have d0 := cell_at HW.out.2.1 0 (v := .string ⟨#[]⟩) rfl
        have d1 := cell_at HW.out.2.1 1 (v := .int .i64 0) rfl
        have f0 := r_frz HW.out.2.1 0
        have f1 := r_frz HW.out.2.1 1
        have HEQ := Lib.hid (r_end HW.out.2.1 HW.out.2.2 hBB q)
        obtain ⟨E, hE⟩ : ∃ E, q.e = E := ⟨_, rfl⟩
        rw [hE] at htn
        by_cases hE0 : E = 0
        · have hq0 : (q.e != 0) = false := by rw [hE, hE0]; rfl
          have hq1 : (E != 0) = false := by rw [hE0]; rfl
          have HE := Lib.hid (And.intro hE hE0)
          clear hE htn hE0
          by_cases hbs : bs = []
          · subst hbs
            have HSV2 := Lib.hid (show RS' = q ∧ RV = 0 from ⟨by rw [HSV.out.1]; rfl, by rw [HSV.out.2]; rfl⟩)
            have cv : ∀ w, Calls Tryd.prog 190 #[.string ⟨#[]⟩] w fun e w' => e = .returned (.int .u64 0) ∧ w = w' := fun w => cv w
            have hlm1 : ¬ limit < 0 := by omega
            have hlm2 : decide (limit < 0) = false := decide_eq_false hlm1
            go_wp2_with fail
            refine Calls.mono (cv _) ?_
            rintro e wz ⟨rfl, rfl⟩
            go_upto_region 11 with fail
            go_region_with (go_at_call 190; (with_reducible refine Calls.mono (cv _) ?_); rintro e wz ⟨rfl, rfl⟩)
            all_goals
              go_wp2_with fail
              obtain ⟨s0, s1, hbf, -⟩ := HEQ.out
              have hbf2 := below_drew' hbf
              replace s0 : (((W4.setCell ⟨B, 0, none⟩ (.string ⟨q.s.toArray⟩)).setCell ⟨B, 1, none⟩ (.int .i64 q.e)).drew).cell? ⟨B, 0, none⟩ = some (.string ⟨q.s.toArray⟩) := s0
              replace s1 : (((W4.setCell ⟨B, 0, none⟩ (.string ⟨q.s.toArray⟩)).setCell ⟨B, 1, none⟩ (.int .i64 q.e)).drew).cell? ⟨B, 1, none⟩ = some (.int .i64 q.e) := s1
              clear hbf
              generalize ((W4.setCell ⟨B, 0, none⟩ (.string ⟨q.s.toArray⟩)).setCell ⟨B, 1, none⟩ (.int .i64 q.e)).drew = w5 at *
              refine bodyPost_ret (v := .tuple #[.agg #[.string ⟨q.s.toArray⟩, .int .i64 q.e], .int .u64 0]) (by simp [results, Tryd.results216, go_sem, s0, s1]) rfl ?_
              exact ⟨by rw [HSV2.out.1, HSV2.out.2] <;> rfl, hbf2⟩
          · have heb : bs.isEmpty = false := by simp [hbs]
            have hlb : 0 < bs.length := List.length_pos_iff.2 hbs
            have hix := str_idx bs 0
            obtain ⟨x, hx⟩ : ∃ x, bs.getD 0 0 = x := ⟨_, rfl⟩
            rw [hx] at hix
            obtain ⟨V, hV⟩ : ∃ V, valN bs = V := ⟨_, rfl⟩
            simp only [hV] at cv
            have hS2 := HSV.out.1
            have hV2 := HSV.out.2
            unfold numS2 at hS2
            unfold numV2 at hV2
            rw [if_neg hbs, hx, hV] at hS2 hV2
            clear hbs hx hV
            by_cases hx0 : x = 0
            · have hxb : ((x.toNat : Int) == 0) = true := by simp [hx0]
              rw [if_pos (.inl hx0)] at hS2 hV2
              obtain ⟨F, hF⟩ : ∃ F, q.fail 3 = F := ⟨_, rfl⟩
              simp only [hF] at cf
              rw [hF] at hS2
              have HSV2 := Lib.hid (And.intro hS2 hV2)
              clear hF hS2 hV2 hx0
              go_wp2_with fail
              refine Calls.mono (cf _) ?_
              rintro e w6 ⟨rfl, hb6⟩
              have h6 := below_at hb6 (lt_heap HW.out.2.1) HW.out.2.1
              have HE6 := Lib.hid (r_end h6 (HW.out.2.2.trans (hb6.mono HW.out.2.2.size)) hBB F)
              clear d0 d1 f0 f1
              have d0 := cell_at h6 0 (v := .string ⟨#[]⟩) rfl
              have d1 := cell_at h6 1 (v := .int .i64 0) rfl
              have f0 := r_frz h6 0
              have f1 := r_frz h6 1
              clear hb6 h6
              go_wp2_with fail
              obtain ⟨s0, s1, hbf, -⟩ := HE6.out
              generalize ((w6.setCell ⟨B, 0, none⟩ (.string ⟨F.s.toArray⟩)).setCell ⟨B, 1, none⟩ (.int .i64 F.e)) = w5 at *
              refine bodyPost_ret (v := .tuple #[.agg #[.string ⟨F.s.toArray⟩, .int .i64 F.e], .int .u64 0]) (by simp [results, Tryd.results216, go_sem, s0, s1]) rfl ?_
              exact ⟨by rw [HSV2.out.1, HSV2.out.2]; rfl, hbf⟩
            · have hxb : ((x.toNat : Int) == 0) = false := by
                have : x.toNat ≠ 0 := fun h => hx0 (by apply UInt8.toNat.inj; simpa using h)
                simp; omega
              by_cases hlv : limit < (V : Int)
              · have hlm2 : decide (limit < (V : Int)) = true := decide_eq_true hlv
                rw [if_pos (.inr (by omega))] at hS2 hV2
                obtain ⟨F, hF⟩ : ∃ F, q.fail 3 = F := ⟨_, rfl⟩
                simp only [hF] at cf
                rw [hF] at hS2
                have HSV2 := Lib.hid (And.intro hS2 hV2)
                clear hF hS2 hV2 hx0
                go_wp2_with fail
                refine Calls.mono (cv _) ?_
                rintro e wz ⟨rfl, rfl⟩
                go_wp2_with fail
                refine Calls.mono (cf _) ?_
                rintro e w6 ⟨rfl, hb6⟩
                have h6 := below_at hb6 (lt_heap HW.out.2.1) HW.out.2.1
                have HE6 := Lib.hid (r_end h6 (HW.out.2.2.trans (hb6.mono HW.out.2.2.size)) hBB F)
                clear d0 d1 f0 f1
                have d0 := cell_at h6 0 (v := .string ⟨#[]⟩) rfl
                have d1 := cell_at h6 1 (v := .int .i64 0) rfl
                have f0 := r_frz h6 0
                have f1 := r_frz h6 1
                clear hb6 h6
                go_wp2_with fail
                obtain ⟨s0, s1, hbf, -⟩ := HE6.out
                generalize ((w6.setCell ⟨B, 0, none⟩ (.string ⟨F.s.toArray⟩)).setCell ⟨B, 1, none⟩ (.int .i64 F.e)) = w5 at *
                refine bodyPost_ret (v := .tuple #[.agg #[.string ⟨F.s.toArray⟩, .int .i64 F.e], .int .u64 0]) (by simp [results, Tryd.results216, go_sem, s0, s1]) rfl ?_
                exact ⟨by rw [HSV2.out.1, HSV2.out.2]; rfl, hbf⟩
              · have hlm2 : decide (limit < (V : Int)) = false := decide_eq_false hlv
                rw [if_neg (fun h => h.elim hx0 (by omega))] at hS2 hV2
                have HSV2 := Lib.hid (And.intro hS2 hV2)
                clear hS2 hV2 hx0
                go_wp2_with fail
                refine Calls.mono (cv _) ?_
                rintro e wz ⟨rfl, rfl⟩
                go_upto_region 11 with fail
                go_region_with (go_at_call 190; (with_reducible refine Calls.mono (cv _) ?_); rintro e wz ⟨rfl, rfl⟩)
                all_goals
                  go_wp2_with fail
                  obtain ⟨s0, s1, hbf, -⟩ := HEQ.out
                  have hbf2 := below_drew' hbf
                  replace s0 : (((W4.setCell ⟨B, 0, none⟩ (.string ⟨q.s.toArray⟩)).setCell ⟨B, 1, none⟩ (.int .i64 q.e)).drew).cell? ⟨B, 0, none⟩ = some (.string ⟨q.s.toArray⟩) := s0
                  replace s1 : (((W4.setCell ⟨B, 0, none⟩ (.string ⟨q.s.toArray⟩)).setCell ⟨B, 1, none⟩ (.int .i64 q.e)).drew).cell? ⟨B, 1, none⟩ = some (.int .i64 q.e) := s1
                  clear hbf
                  generalize ((W4.setCell ⟨B, 0, none⟩ (.string ⟨q.s.toArray⟩)).setCell ⟨B, 1, none⟩ (.int .i64 q.e)).drew = w5 at *
                  refine bodyPost_ret (v := .tuple #[.agg #[.string ⟨q.s.toArray⟩, .int .i64 q.e], .int .u64 V]) (by simp [results, Tryd.results216, go_sem, s0, s1]) rfl ?_
                  exact ⟨by rw [HSV2.out.1, HSV2.out.2] <;> rfl, hbf2⟩
        · have hq0 : (q.e != 0) = true := by rw [hE]; simpa using hE0
          obtain rfl := htn hE0
          have HSV2 := Lib.hid (show RS' = q ∧ RV = 0 from ⟨by rw [HSV.out.1]; rfl, by rw [HSV.out.2]; rfl⟩)
          clear hE hE0 htn
          go_wp2_with fail
          obtain ⟨s0, s1, hbf, -⟩ := HEQ.out
          generalize ((W4.setCell ⟨B, 0, none⟩ (.string ⟨q.s.toArray⟩)).setCell ⟨B, 1, none⟩ (.int .i64 q.e)) = w5 at *
          refine bodyPost_ret (v := .tuple #[.agg #[.string ⟨q.s.toArray⟩, .int .i64 q.e], .int .u64 0]) (by simp [results, Tryd.results216, go_sem, s0, s1]) rfl ?_
          exact ⟨by rw [HSV2.out.1, HSV2.out.2]; rfl, hbf⟩
end Go.Proofs.YtpekpdceagdbeaaDoor
