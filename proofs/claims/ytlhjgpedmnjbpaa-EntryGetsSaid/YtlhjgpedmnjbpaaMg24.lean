/-
  Several texts, laid together.
-/
import Derived.Test.YtlhjgpedmnjbpaaMg23
import Derived.Test.YtlhjgpedmnjbpaaMg11
import Derived.Test.YtlhjgpedmnjbpaaMg13
/-
  tarnref01.R: Num.
-/

namespace Go.Proofs.Ytlhjgpedmnjbpaa
open Go.RowKit
set_option linter.unusedVariables false
set_option linter.unusedSimpArgs false

theorem r_end {w wx : World} {B : Nat} {x : Value} {y : Value} {t : TypeId} (h : wx.heap[B]? = some (.cells #[x, y] t)) (hb : Below w.heap.size w wx) (hB : w.heap.size ≤ B) (F : RS) :
    ((wx.setCell ⟨B, 0, none⟩ (.string ⟨F.s.toArray⟩)).setCell ⟨B, 1, none⟩ (.int .i64 F.e)).cell? ⟨B, 0, none⟩ = some (.string ⟨F.s.toArray⟩) ∧ ((wx.setCell ⟨B, 0, none⟩ (.string ⟨F.s.toArray⟩)).setCell ⟨B, 1, none⟩ (.int .i64 F.e)).cell? ⟨B, 1, none⟩ = some (.int .i64 F.e) ∧ Below w.heap.size w ((wx.setCell ⟨B, 0, none⟩ (.string ⟨F.s.toArray⟩)).setCell ⟨B, 1, none⟩ (.int .i64 F.e)) ∧ ((wx.setCell ⟨B, 0, none⟩ (.string ⟨F.s.toArray⟩)).setCell ⟨B, 1, none⟩ (.int .i64 F.e)).heap[B]? = some (.cells #[.string ⟨F.s.toArray⟩, .int .i64 F.e] t) := by
  have hs := set_two (u := .string ⟨F.s.toArray⟩) (v := .int .i64 F.e) h
  exact ⟨cell_at hs 0 rfl, cell_at hs 1 rfl, (hb.setCell (p := ⟨B, 0, none⟩) hB (.string ⟨F.s.toArray⟩)).setCell (p := ⟨B, 1, none⟩) hB (.int .i64 F.e), hs⟩
theorem r_frz {w : World} {B : Nat} {A : Array Value} {t : TypeId} (h : w.heap[B]? = some (.cells A t)) (i : Nat) : w.frozen? ⟨B, i, none⟩ = false := by simp [World.frozen?, h]
theorem takeB_nil {r : RS} {n : Int} (h : (r.takeS n).e ≠ 0) : r.takeB n = [] := by
  unfold RS.takeS at h
  unfold RS.takeB
  by_cases he : r.e = 0
  · rw [if_neg (by simpa using he)] at h ⊢
    by_cases hb : n < 0 ∨ (r.s.length : Int) < n
    · rw [if_pos hb]
    · rw [if_neg hb] at h
      exact absurd he h
  · rw [if_pos he]
theorem takeS_len (r : RS) (n : Int) : (r.takeS n).s.length ≤ r.s.length := by
  unfold RS.takeS RS.fail
  repeat' split
  all_goals simp
set_option maxHeartbeats 3200000 in
set_option maxRecDepth 100000 in
theorem rnum (r : RS) (limit : Int) (w : World) (hok : ROk r) (hl : r.s.length ≤ 1000000) (hU : U64 limit) : Calls Try.prog 133 #[rC r, .int .u64 limit] w fun e w' => e = .returned (.tuple #[rC (r.numS limit.toNat), .int .u64 (r.numV limit.toNat : Nat)]) ∧ Below w.heap.size w w' := by
  have hU0 := hU.1
  have ct := fun w => rtake r 1 w hok hl
  have hokp := hok.take 1
  have hlp := Nat.le_trans (takeS_len r 1) hl
  have hlen1 := takeB_len r 1
  have hNS : r.numS limit.toNat = numS1 (r.takeS 1) (r.takeB 1) limit.toNat := rfl
  have hNV : r.numV limit.toNat = numV1 (r.takeS 1) (r.takeB 1) limit.toNat := rfl
  rw [hNS, hNV]
  obtain ⟨p, hp⟩ : ∃ p, r.takeS 1 = p := ⟨_, rfl⟩
  obtain ⟨hd, hhd⟩ : ∃ p, r.takeB 1 = p := ⟨_, rfl⟩
  rw [hp] at hokp hlp ⊢
  rw [hhd] at hlen1 ⊢
  simp only [hp, hhd] at ct
  clear hNS hNV hp hhd hok hl hU
  have ct2 := fun n w => rtake p n w hokp hlp
  have cf := fun w => rfail p 3 w
  obtain ⟨RS', hRS⟩ : ∃ x, numS1 p hd limit.toNat = x := ⟨_, rfl⟩
  obtain ⟨RV, hRV⟩ : ∃ x, numV1 p hd limit.toNat = x := ⟨_, rfl⟩
  rw [hRS, hRV]
  have HR := Lib.hid (And.intro hRS hRV)
  clear hRS hRV
  obtain ⟨s, er⟩ := r
  unfold rC at ct ct2 cf ⊢
  simp only at ct ct2 cf ⊢
  obtain ⟨h1, h2, hb⟩ := two_alloc w #[.string ⟨s.toArray⟩, .int .i64 er] #[.string ⟨#[]⟩, .int .i64 0] 35
  go_enter Try.func133, Try.ntmps133
  go_upto_region 1 with fail
  generalize (w.alloc (.cells #[.string ⟨s.toArray⟩, .int .i64 er] 35)).alloc (.cells #[.string ⟨#[]⟩, .int .i64 0] 35) = w1 at *
  have c0 := cell_at h1 0 (v := .string ⟨s.toArray⟩) rfl
  have c1 := cell_at h1 1 (v := .int .i64 er) rfl
  have H2 := Lib.hid (And.intro h2 hb)
  clear h1 h2 hb
  go_wp2_with fail
  refine Calls.mono (ct w1) ?_
  rintro e w2 ⟨rfl, hb2⟩
  have hba := hb2.alloc hb2.size (.cells #[.string ⟨p.s.toArray⟩, .int .i64 p.e] 35)
  have hc := heap_alloc_self w2 (.cells #[.string ⟨p.s.toArray⟩, .int .i64 p.e] 35)
  have h2 := below_at hba (lt_heap H2.out.1) H2.out.1
  have HB := Lib.hid (H2.out.2.trans (hba.mono H2.out.2.size))
  have hne : w.heap.size + 1 ≠ w2.heap.size := by have := lt_heap H2.out.1; have := hb2.size; omega
  have hCw : w.heap.size ≤ w2.heap.size := by have := lt_heap H2.out.1; have := hb2.size; omega
  clear hb2 hba c0 c1 ct
  go_upto_region 2 with fail
  generalize w2.alloc (.cells #[.string ⟨p.s.toArray⟩, .int .i64 p.e] 35) = w3 at *
  obtain ⟨C, hC⟩ : ∃ C, w2.heap.size = C := ⟨_, rfl⟩
  obtain ⟨B, hB⟩ : ∃ B, w.heap.size + 1 = B := ⟨_, rfl⟩
  have hBB : w.heap.size ≤ B := by omega
  rw [hC] at hc hne hCw
  rw [hB] at h2 hne
  simp only [hC, hB]
  have c0 := cell_at hc 0 (v := .string ⟨p.s.toArray⟩) rfl
  have c1 := cell_at hc 1 (v := .int .i64 p.e) rfl
  have d0 := cell_at h2 0 (v := .string ⟨#[]⟩) rfl
  have d1 := cell_at h2 1 (v := .int .i64 0) rfl
  have f0 := r_frz h2 0
  have f1 := r_frz h2 1
  have HH := Lib.hid (And.intro hc h2)
  clear h2 hc hB hC H2
  by_cases hne' : hd = []
  · have he : hd.isEmpty = true := by simp [hne']
    have HE := Lib.hid (r_end HH.out.2 HB.out hBB p)
    have HSV := Lib.hid (show RS' = p ∧ RV = 0 from ⟨by rw [← HR.out.1]; unfold numS1; rw [if_pos hne'], by rw [← HR.out.2]; unfold numV1; rw [if_pos hne']⟩)
    clear hne' hlen1
    go_wp2_with fail
    obtain ⟨s0, s1, hbf, -⟩ := HE.out
    generalize ((w3.setCell ⟨B, 0, none⟩ (.string ⟨p.s.toArray⟩)).setCell ⟨B, 1, none⟩ (.int .i64 p.e)) = w5 at *
    refine bodyPost_ret (v := .tuple #[.agg #[.string ⟨p.s.toArray⟩, .int .i64 p.e], .int .u64 0]) (by simp [results, Try.results133, go_sem, s0, s1]) rfl ?_
    exact ⟨by rw [HSV.out.1, HSV.out.2]; rfl, hbf⟩
  · obtain ⟨c, rfl⟩ : ∃ c, hd = [c] := by
      cases hd with
      | nil => exact absurd rfl hne'
      | cons c t =>
        cases t with
        | nil => exact ⟨c, rfl⟩
        | cons d u => simp at hlen1
    have hcl := c.toNat_lt
    have hS : numS1 p [c] limit.toNat = if 8 < c.toNat then p.fail 3 else numS2 (p.takeS c.toNat) (p.takeB c.toNat) limit.toNat := by unfold numS1; rw [if_neg (by simp)]; rfl
    have hV : numV1 p [c] limit.toNat = if 8 < c.toNat then 0 else numV2 (p.takeB c.toNat) limit.toNat := by unfold numV1; rw [if_neg (by simp)]; rfl
    rw [HR.out.1] at hS
    rw [HR.out.2] at hV
    have hix := str_idx [c] 0
    have hgc : [c].getD 0 0 = c := rfl
    rw [hgc] at hix
    clear hne' hlen1 hgc
    by_cases hc8 : 8 < c.toNat
    · have hc8' : (8 : Int) < (c.toNat : Int) := by omega
      rw [if_pos hc8] at hS hV
      obtain ⟨F, hF⟩ : ∃ F, p.fail 3 = F := ⟨_, rfl⟩
      simp only [hF] at cf
      rw [hF] at hS
      have HSV := Lib.hid (And.intro hS hV)
      clear hF hS hV
      go_wp2_with fail
      refine Calls.mono (cf _) ?_
      rintro e w4 ⟨rfl, hb4⟩
      have h4 := below_at hb4 (lt_heap HH.out.2) HH.out.2
      have HE := Lib.hid (r_end h4 (HB.out.trans (hb4.mono HB.out.size)) hBB F)
      have d0 := cell_at h4 0 (v := .string ⟨#[]⟩) rfl
      have d1 := cell_at h4 1 (v := .int .i64 0) rfl
      have f0 := r_frz h4 0
      have f1 := r_frz h4 1
      clear hb4 h4
      go_wp2_with fail
      obtain ⟨s0, s1, hbf, -⟩ := HE.out
      generalize ((w4.setCell ⟨B, 0, none⟩ (.string ⟨F.s.toArray⟩)).setCell ⟨B, 1, none⟩ (.int .i64 F.e)) = w5 at *
      refine bodyPost_ret (v := .tuple #[.agg #[.string ⟨F.s.toArray⟩, .int .i64 F.e], .int .u64 0]) (by simp [results, Try.results133, go_sem, s0, s1]) rfl ?_
      exact ⟨by rw [HSV.out.1, HSV.out.2]; rfl, hbf⟩
    · have hc8' : ¬ (8 : Int) < (c.toNat : Int) := by omega
      rw [if_neg hc8] at hS hV
      have hlen2 : (p.takeB c.toNat).length ≤ 8 := by have := takeB_len p c.toNat; omega
      have htn := takeB_nil (r := p) (n := c.toNat)
      have ct3 := fun w => ct2 (c.toNat : Int) w
      obtain ⟨q, hq⟩ : ∃ q, p.takeS (c.toNat : Int) = q := ⟨_, rfl⟩
      obtain ⟨bs, hbs⟩ : ∃ q, p.takeB (c.toNat : Int) = q := ⟨_, rfl⟩
      simp only [hq, hbs] at ct3
      rw [hq, hbs] at hS
      rw [hbs] at hV
      rw [hbs] at hlen2
      rw [hq, hbs] at htn
      have HSV := Lib.hid (And.intro hS hV)
      clear hq hbs ct2 cf hS hV
      have cf := fun w => rfail q 3 w
      unfold rC at cf
      have cv := fun w => rvalue bs w (by omega)
      have hwc : IntKind.i64.wrap (c.toNat : Int) = (c.toNat : Int) := by rw [IntKind.wrap_i64]; omega
      go_upto_region 6 with fail
      go_cut [8] (fun v wx => v = .string ⟨bs.toArray⟩ ∧ Hid (wx.heap[C]? = some (.cells #[.string ⟨q.s.toArray⟩, .int .i64 q.e] 35) ∧ wx.heap[B]? = some (.cells #[.string ⟨#[]⟩, .int .i64 0] 35) ∧ Below w.heap.size w wx))
      case first =>
        go_region_with (go_at_call 155; (with_reducible refine Calls.mono (ct3 _) ?_); rintro e w4 ⟨rfl, hb4⟩; have hc4 := below_at hb4 (lt_heap HH.out.1) HH.out.1; have k0 := cell_at hc4 0 (v := .string ⟨p.s.toArray⟩) rfl; have k1 := cell_at hc4 1 (v := .int .i64 p.e) rfl; have g0 := r_frz hc4 0; have g1 := r_frz hc4 1)
        all_goals
          have h4 := below_at hb4 (lt_heap HH.out.2) HH.out.2
          have hb5 : Below w3.heap.size w3 w4 := ⟨hb4.os, hb4.tape, hb4.output, hb4.size, hb4.block⟩
          have HB4 := Lib.hid (HB.out.trans (hb5.mono HB.out.size))
          have HCQ := Lib.hid (r_end hc4 HB4.out hCw q)
          have h5 := (heap_setCell_other (w4.setCell ⟨C, 0, none⟩ (.string ⟨q.s.toArray⟩)) ⟨C, 1, none⟩ B (.int .i64 q.e) hne).trans ((heap_setCell_other w4 ⟨C, 0, none⟩ B (.string ⟨q.s.toArray⟩) hne).trans h4)
          have HH5 := Lib.hid h5
          clear hb4 hb5 h4 hc4 k0 k1 g0 g1 h5 c0 c1 d0 d1 f0 f1
          go_wp2_with fail
          go_meet
          exact ⟨rfl, Lib.hid ⟨HCQ.out.2.2.2, HH5.out, HCQ.out.2.2.1⟩⟩
      case rest =>
        obtain ⟨rfl, HW⟩ := hcut
        obtain ⟨W4, hW4⟩ : ∃ W, W = wc := ⟨_, rfl⟩
        subst hW4
        clear c0 c1 d0 d1 f0 f1 HH HB ct3
        have c0 := cell_at HW.out.1 0 (v := .string ⟨q.s.toArray⟩) rfl
        have c1 := cell_at HW.out.1 1 (v := .int .i64 q.e) rfl
        have d0 := cell_at HW.out.2.1 0 (v := .string ⟨#[]⟩) rfl
        have d1 := cell_at HW.out.2.1 1 (v := .int .i64 0) rfl
        have f0 := r_frz HW.out.2.1 0
        have f1 := r_frz HW.out.2.1 1
        have HEQ := Lib.hid (r_end HW.out.2.1 HW.out.2.2 hBB q)
        obtain ⟨E, hE⟩ : ∃ E, q.e = E := ⟨_, rfl⟩
        rw [hE] at htn
        by_cases hE0 : E = 0
        · have hq0 : (q.e != 0) = false := by rw [hE, hE0]; rfl
          have hq1 : (E != 0) = false := by rw [hE0]; rfl
          have HE := Lib.hid (And.intro hE hE0)
          clear hE htn hE0
          by_cases hbs : bs = []
          · subst hbs
            have HSV2 := Lib.hid (show RS' = q ∧ RV = 0 from ⟨by rw [HSV.out.1]; rfl, by rw [HSV.out.2]; rfl⟩)
            have cv : ∀ w, Calls Try.prog 156 #[.string ⟨#[]⟩] w fun e w' => e = .returned (.int .u64 0) ∧ w = w' := fun w => cv w
            have hlm1 : ¬ limit < 0 := by omega
            have hlm2 : decide (limit < 0) = false := decide_eq_false hlm1
            go_wp2_with fail
            refine Calls.mono (cv _) ?_
            rintro e wz ⟨rfl, rfl⟩
            go_upto_region 11 with fail
            go_region_with (go_at_call 156; (with_reducible refine Calls.mono (cv _) ?_); rintro e wz ⟨rfl, rfl⟩)
            all_goals
              go_wp2_with fail
              obtain ⟨s0, s1, hbf, -⟩ := HEQ.out
              have hbf2 := below_drew' hbf
              replace s0 : (((W4.setCell ⟨B, 0, none⟩ (.string ⟨q.s.toArray⟩)).setCell ⟨B, 1, none⟩ (.int .i64 q.e)).drew).cell? ⟨B, 0, none⟩ = some (.string ⟨q.s.toArray⟩) := s0
              replace s1 : (((W4.setCell ⟨B, 0, none⟩ (.string ⟨q.s.toArray⟩)).setCell ⟨B, 1, none⟩ (.int .i64 q.e)).drew).cell? ⟨B, 1, none⟩ = some (.int .i64 q.e) := s1
              clear hbf
              generalize ((W4.setCell ⟨B, 0, none⟩ (.string ⟨q.s.toArray⟩)).setCell ⟨B, 1, none⟩ (.int .i64 q.e)).drew = w5 at *
              refine bodyPost_ret (v := .tuple #[.agg #[.string ⟨q.s.toArray⟩, .int .i64 q.e], .int .u64 0]) (by simp [results, Try.results133, go_sem, s0, s1]) rfl ?_
              exact ⟨by rw [HSV2.out.1, HSV2.out.2] <;> rfl, hbf2⟩
          · have heb : bs.isEmpty = false := by simp [hbs]
            have hlb : 0 < bs.length := List.length_pos_iff.2 hbs
            have hix := str_idx bs 0
            obtain ⟨x, hx⟩ : ∃ x, bs.getD 0 0 = x := ⟨_, rfl⟩
            rw [hx] at hix
            obtain ⟨V, hV⟩ : ∃ V, valN bs = V := ⟨_, rfl⟩
            simp only [hV] at cv
            have hS2 := HSV.out.1
            have hV2 := HSV.out.2
            unfold numS2 at hS2
            unfold numV2 at hV2
            rw [if_neg hbs, hx, hV] at hS2 hV2
            clear hbs hx hV
            by_cases hx0 : x = 0
            · have hxb : ((x.toNat : Int) == 0) = true := by simp [hx0]
              rw [if_pos (.inl hx0)] at hS2 hV2
              obtain ⟨F, hF⟩ : ∃ F, q.fail 3 = F := ⟨_, rfl⟩
              simp only [hF] at cf
              rw [hF] at hS2
              have HSV2 := Lib.hid (And.intro hS2 hV2)
              clear hF hS2 hV2 hx0
              go_wp2_with fail
              refine Calls.mono (cf _) ?_
              rintro e w6 ⟨rfl, hb6⟩
              have h6 := below_at hb6 (lt_heap HW.out.2.1) HW.out.2.1
              have HE6 := Lib.hid (r_end h6 (HW.out.2.2.trans (hb6.mono HW.out.2.2.size)) hBB F)
              clear d0 d1 f0 f1
              have d0 := cell_at h6 0 (v := .string ⟨#[]⟩) rfl
              have d1 := cell_at h6 1 (v := .int .i64 0) rfl
              have f0 := r_frz h6 0
              have f1 := r_frz h6 1
              clear hb6 h6
              go_wp2_with fail
              obtain ⟨s0, s1, hbf, -⟩ := HE6.out
              generalize ((w6.setCell ⟨B, 0, none⟩ (.string ⟨F.s.toArray⟩)).setCell ⟨B, 1, none⟩ (.int .i64 F.e)) = w5 at *
              refine bodyPost_ret (v := .tuple #[.agg #[.string ⟨F.s.toArray⟩, .int .i64 F.e], .int .u64 0]) (by simp [results, Try.results133, go_sem, s0, s1]) rfl ?_
              exact ⟨by rw [HSV2.out.1, HSV2.out.2]; rfl, hbf⟩
            · have hxb : ((x.toNat : Int) == 0) = false := by
                have : x.toNat ≠ 0 := fun h => hx0 (by apply UInt8.toNat.inj; simpa using h)
                simp; omega
              by_cases hlv : limit < (V : Int)
              · have hlm2 : decide (limit < (V : Int)) = true := decide_eq_true hlv
                rw [if_pos (.inr (by omega))] at hS2 hV2
                obtain ⟨F, hF⟩ : ∃ F, q.fail 3 = F := ⟨_, rfl⟩
                simp only [hF] at cf
                rw [hF] at hS2
                have HSV2 := Lib.hid (And.intro hS2 hV2)
                clear hF hS2 hV2 hx0
                go_wp2_with fail
                refine Calls.mono (cv _) ?_
                rintro e wz ⟨rfl, rfl⟩
                go_wp2_with fail
                refine Calls.mono (cf _) ?_
                rintro e w6 ⟨rfl, hb6⟩
                have h6 := below_at hb6 (lt_heap HW.out.2.1) HW.out.2.1
                have HE6 := Lib.hid (r_end h6 (HW.out.2.2.trans (hb6.mono HW.out.2.2.size)) hBB F)
                clear d0 d1 f0 f1
                have d0 := cell_at h6 0 (v := .string ⟨#[]⟩) rfl
                have d1 := cell_at h6 1 (v := .int .i64 0) rfl
                have f0 := r_frz h6 0
                have f1 := r_frz h6 1
                clear hb6 h6
                go_wp2_with fail
                obtain ⟨s0, s1, hbf, -⟩ := HE6.out
                generalize ((w6.setCell ⟨B, 0, none⟩ (.string ⟨F.s.toArray⟩)).setCell ⟨B, 1, none⟩ (.int .i64 F.e)) = w5 at *
                refine bodyPost_ret (v := .tuple #[.agg #[.string ⟨F.s.toArray⟩, .int .i64 F.e], .int .u64 0]) (by simp [results, Try.results133, go_sem, s0, s1]) rfl ?_
                exact ⟨by rw [HSV2.out.1, HSV2.out.2]; rfl, hbf⟩
              · have hlm2 : decide (limit < (V : Int)) = false := decide_eq_false hlv
                rw [if_neg (fun h => h.elim hx0 (by omega))] at hS2 hV2
                have HSV2 := Lib.hid (And.intro hS2 hV2)
                clear hS2 hV2 hx0
                go_wp2_with fail
                refine Calls.mono (cv _) ?_
                rintro e wz ⟨rfl, rfl⟩
                go_upto_region 11 with fail
                go_region_with (go_at_call 156; (with_reducible refine Calls.mono (cv _) ?_); rintro e wz ⟨rfl, rfl⟩)
                all_goals
                  go_wp2_with fail
                  obtain ⟨s0, s1, hbf, -⟩ := HEQ.out
                  have hbf2 := below_drew' hbf
                  replace s0 : (((W4.setCell ⟨B, 0, none⟩ (.string ⟨q.s.toArray⟩)).setCell ⟨B, 1, none⟩ (.int .i64 q.e)).drew).cell? ⟨B, 0, none⟩ = some (.string ⟨q.s.toArray⟩) := s0
                  replace s1 : (((W4.setCell ⟨B, 0, none⟩ (.string ⟨q.s.toArray⟩)).setCell ⟨B, 1, none⟩ (.int .i64 q.e)).drew).cell? ⟨B, 1, none⟩ = some (.int .i64 q.e) := s1
                  clear hbf
                  generalize ((W4.setCell ⟨B, 0, none⟩ (.string ⟨q.s.toArray⟩)).setCell ⟨B, 1, none⟩ (.int .i64 q.e)).drew = w5 at *
                  refine bodyPost_ret (v := .tuple #[.agg #[.string ⟨q.s.toArray⟩, .int .i64 q.e], .int .u64 V]) (by simp [results, Try.results133, go_sem, s0, s1]) rfl ?_
                  exact ⟨by rw [HSV2.out.1, HSV2.out.2] <;> rfl, hbf2⟩
        · have hq0 : (q.e != 0) = true := by rw [hE]; simpa using hE0
          obtain rfl := htn hE0
          have HSV2 := Lib.hid (show RS' = q ∧ RV = 0 from ⟨by rw [HSV.out.1]; rfl, by rw [HSV.out.2]; rfl⟩)
          clear hE hE0 htn
          go_wp2_with fail
          obtain ⟨s0, s1, hbf, -⟩ := HEQ.out
          generalize ((W4.setCell ⟨B, 0, none⟩ (.string ⟨q.s.toArray⟩)).setCell ⟨B, 1, none⟩ (.int .i64 q.e)) = w5 at *
          refine bodyPost_ret (v := .tuple #[.agg #[.string ⟨q.s.toArray⟩, .int .i64 q.e], .int .u64 0]) (by simp [results, Try.results133, go_sem, s0, s1]) rfl ?_
          exact ⟨by rw [HSV2.out.1, HSV2.out.2]; rfl, hbf⟩
end Go.Proofs.Ytlhjgpedmnjbpaa
/-
  tarnref01.R: Int, at any limit; List.
-/

namespace Go.Proofs.Ytlhjgpedmnjbpaa
open Go.RowKit
set_option linter.unusedVariables false
set_option linter.unusedSimpArgs false

theorem ROk.num {r : RS} (h : ROk r) (L : Nat) : ROk (r.numS L) := by
  unfold RS.numS numS1
  split
  · exact h.take 1
  · split
    · exact (h.take 1).fail 3
    · unfold numS2
      split
      · exact (h.take 1).take _
      · split
        · exact ((h.take 1).take _).fail 3
        · exact (h.take 1).take _
theorem fail_len (r : RS) (n : Int) : (r.fail n).s.length ≤ r.s.length := by
  unfold RS.fail
  split
  · simp
  · exact Nat.le_refl _
theorem numS_len (r : RS) (L : Nat) : (r.numS L).s.length ≤ r.s.length := by
  unfold RS.numS numS1
  split
  · exact takeS_len r 1
  · split
    · exact Nat.le_trans (fail_len _ _) (takeS_len r 1)
    · unfold numS2
      split
      · exact Nat.le_trans (takeS_len _ _) (takeS_len r 1)
      · split
        · exact Nat.le_trans (fail_len _ _) (Nat.le_trans (takeS_len _ _) (takeS_len r 1))
        · exact Nat.le_trans (takeS_len _ _) (takeS_len r 1)
set_option maxHeartbeats 1600000 in
theorem rintG (r : RS) (L : Nat) (w : World) (hL0 : 0 < L) (hL1 : L ≤ 9223372036854775807) (hok : ROk r) (hl : r.s.length ≤ 1000000) : Calls Try.prog 84 #[rC r, .int .i64 (L : Int)] w fun e w' => e = .returned (.tuple #[rC (r.numS L), .int .i64 (r.numV L : Nat)]) ∧ Below w.heap.size w w' := by
  have cn := fun w => rnum r (L : Int) w hok hl ⟨by omega, by omega⟩
  have hle := numV_le r L
  have ht : (L : Int).toNat = L := rfl
  have hLi : (0 : Int) < (L : Int) := by omega
  rw [ht] at cn
  obtain ⟨F, hF⟩ : ∃ F, r.numS L = F := ⟨_, rfl⟩
  obtain ⟨V, hV⟩ : ∃ V, r.numV L = V := ⟨_, rfl⟩
  simp only [hF, hV] at cn
  rw [hV] at hle
  have hVi : (V : Int) ≤ 9223372036854775807 := by omega
  rw [hF, hV]
  clear hF hV hok hl ht
  have hw1 : IntKind.i64.wrap (V : Int) = (V : Int) := by rw [IntKind.wrap_i64]; omega
  have hw2 : IntKind.u64.wrap (L : Int) = (L : Int) := wrap_u64_in _ ⟨by omega, by omega⟩
  obtain ⟨s, er⟩ := r
  unfold rC at cn ⊢
  simp only at cn ⊢
  obtain ⟨h1, h2, hb⟩ := two_alloc w #[.string ⟨s.toArray⟩, .int .i64 er] #[.string ⟨#[]⟩, .int .i64 0] 35
  go_enter Try.func84, Try.ntmps84
  go_upto_region 1 with fail
  generalize (w.alloc (.cells #[.string ⟨s.toArray⟩, .int .i64 er] 35)).alloc (.cells #[.string ⟨#[]⟩, .int .i64 0] 35) = w1 at *
  have c0 := cell_at h1 0 (v := .string ⟨s.toArray⟩) rfl
  have c1 := cell_at h1 1 (v := .int .i64 er) rfl
  have H2 := Lib.hid (And.intro h2 hb)
  clear h1 h2 hb
  go_wp2_with fail
  refine Calls.mono (cn w1) ?_
  rintro e w2 ⟨rfl, hb2⟩
  have hba := hb2.alloc hb2.size (.cells #[.string ⟨F.s.toArray⟩, .int .i64 F.e] 35)
  have hc := heap_alloc_self w2 (.cells #[.string ⟨F.s.toArray⟩, .int .i64 F.e] 35)
  have h2 := below_at hba (lt_heap H2.out.1) H2.out.1
  have HB := Lib.hid (H2.out.2.trans (hba.mono H2.out.2.size))
  clear hb2 hba c0 c1
  go_upto_region 5 with fail
  generalize w2.alloc (.cells #[.string ⟨F.s.toArray⟩, .int .i64 F.e] 35) = w3 at *
  obtain ⟨C, hC⟩ : ∃ C, w2.heap.size = C := ⟨_, rfl⟩
  obtain ⟨B, hB⟩ : ∃ B, w.heap.size + 1 = B := ⟨_, rfl⟩
  have hBB : w.heap.size ≤ B := by omega
  rw [hC] at hc
  rw [hB] at h2
  simp only [hC, hB]
  have c0 := cell_at hc 0 (v := .string ⟨F.s.toArray⟩) rfl
  have c1 := cell_at hc 1 (v := .int .i64 F.e) rfl
  have d0 := cell_at h2 0 (v := .string ⟨#[]⟩) rfl
  have d1 := cell_at h2 1 (v := .int .i64 0) rfl
  have f0 := r_frz h2 0
  have f1 := r_frz h2 1
  have HE := Lib.hid (r_end h2 HB.out hBB F)
  clear h2 hc hB hC H2 HB
  go_wp2_with fail
  obtain ⟨s0, s1, hbf, -⟩ := HE.out
  generalize ((w3.setCell ⟨B, 0, none⟩ (.string ⟨F.s.toArray⟩)).setCell ⟨B, 1, none⟩ (.int .i64 F.e)) = w5 at *
  refine bodyPost_ret (v := .tuple #[.agg #[.string ⟨F.s.toArray⟩, .int .i64 F.e], .int .i64 V]) (by simp [results, Try.results84, go_sem, s0, s1]) rfl ?_
  exact ⟨rfl, hbf⟩
end Go.Proofs.Ytlhjgpedmnjbpaa
/-
  tarnref01.R: List.
-/



namespace Go.Proofs.Ytlhjgpedmnjbpaa
open Go.RowKit
set_option linter.unusedVariables false
set_option linter.unusedSimpArgs false

/-- the numbers that are told, whether an error came or not -/
def outR (q : RS) (L : Nat) : Nat → List Int
  | 0 => []
  | k + 1 => outR q L k ++ [((intsR q L k).1.numV L : Int)]
theorem outR_len (q : RS) (L k : Nat) : (outR q L k).length = k := by
  induction k with
  | zero => rfl
  | succ k ih => simp [outR, ih]
theorem intsR_next (q : RS) (L k : Nat) : (intsR q L (k + 1)).1 = (intsR q L k).1.numS L := by
  rw [intsR]
  split
  · rename_i h
    rw [numS_err _ _ h]
  · rfl
theorem intsR_out (q : RS) (L k : Nat) (h : (intsR q L k).1.e = 0) : (intsR q L k).2 = outR q L k := by
  induction k with
  | zero => rfl
  | succ k ih =>
    have hk : (intsR q L k).1.e = 0 := by
      rcases Classical.em ((intsR q L k).1.e = 0) with h0 | h0
      · exact h0
      · rw [intsR_next, numS_err _ _ h0] at h
        exact h
    rw [intsR, if_neg (by simpa using hk)]
    show (intsR q L k).2 ++ _ = _
    rw [ih hk]
    rfl
theorem ROk.ints {q : RS} (h : ROk q) (L k : Nat) : ROk (intsR q L k).1 := by
  induction k with
  | zero => exact h
  | succ k ih => rw [intsR_next]; exact ih.num L
theorem ints_len (q : RS) (L k : Nat) : (intsR q L k).1.s.length ≤ q.s.length := by
  induction k with
  | zero => exact Nat.le_refl _
  | succ k ih => rw [intsR_next]; exact Nat.le_trans (numS_len _ _) ih
theorem ROk.list {r : RS} (h : ROk r) (M L : Int) : ROk (r.listS M L) := (h.num _).ints _ _
theorem listS_len (r : RS) (M L : Int) : (r.listS M L).s.length ≤ r.s.length := Nat.le_trans (ints_len _ _ _) (numS_len _ _)
def RListP (w : World) (r : RS) (M L : Int) (ev : Ending) (w' : World) : Prop :=
  ∃ v, ev = .returned (.tuple #[rC (r.listS M L), v]) ∧ w'.ownsRow w.heap.size 3 1 v (r.listV M L).length (iCells (r.listV M L)) ∧ Below w.heap.size w w'
theorem two_cellsR {w : World} {b : Nat} {q : RS} (h : w.heap[b]? = some (.cells #[.string ⟨q.s.toArray⟩, .int .i64 q.e] 35)) : w.cell? ⟨b, 0, none⟩ = some (.string ⟨q.s.toArray⟩) ∧ w.cell? ⟨b, 1, none⟩ = some (.int .i64 q.e) ∧ ∀ j, w.frozen? ⟨b, j, none⟩ = false :=
  ⟨cell_at h 0 rfl, cell_at h 1 rfl, fun j => r_frz h j⟩
theorem own_past {w w' : World} {base y n size : Nat} {e : TypeId} {v : Value} {xs : List Value} (h : w.ownsRow base e size v n xs) (ho : Only y w w') (hy : y < base) : w'.ownsRow base e size v n xs := own_onlyD h ho hy
set_option maxHeartbeats 6400000 in
set_option maxRecDepth 100000 in
theorem rlist (r : RS) (M L : Nat) (w : World) (hok : ROk r) (hl : r.s.length ≤ 1000000) (hM0 : 0 < M) (hM1 : M ≤ 1000000) (hL0 : 0 < L) (hL1 : L ≤ 9223372036854775807) :
    Calls Try.prog 89 #[rC r, .int .i64 (M : Int), .int .i64 (L : Int)] w (RListP w r M L) := by
  obtain ⟨i0, hi, hz0, hz1, hz2⟩ := info_parts info_int
  have cM := fun w => rintG r M w hM0 (by omega) hok hl
  obtain ⟨q, hq⟩ : ∃ q, r.numS M = q := ⟨_, rfl⟩
  obtain ⟨m, hm⟩ : ∃ m, r.numV M = m := ⟨_, rfl⟩
  have hmM : m ≤ M := by rw [← hm]; exact numV_le r M
  have hokq : ROk q := by rw [← hq]; exact hok.num M
  have hlq : q.s.length ≤ 1000000 := by rw [← hq]; exact Nat.le_trans (numS_len _ _) hl
  simp only [hq, hm] at cM
  obtain ⟨F, hF⟩ : ∃ F, r.listS M L = F := ⟨_, rfl⟩
  obtain ⟨V, hV⟩ : ∃ V, r.listV M L = V := ⟨_, rfl⟩
  have hF' : (intsR q L m).1 = F := by rw [← hF, RS.listS]; simp only [Int.toNat_natCast]; rw [hq, hm]
  have hV' : V = if F.e ≠ 0 then [] else (intsR q L m).2 := by rw [← hV, RS.listV, hF]; simp only [Int.toNat_natCast]; rw [hq, hm]
  unfold RListP
  rw [hF, hV]
  have HF := Lib.hid (And.intro hF' hV')
  have HQ := Lib.hid (And.intro hokq hlq)
  clear hq hm hF hV hF' hV' hokq hlq hok hl
  obtain ⟨s, er⟩ := r
  unfold rC at cM ⊢
  simp only at cM ⊢
  obtain ⟨h1, h2, hb⟩ := two_alloc w #[.string ⟨s.toArray⟩, .int .i64 er] #[.string ⟨#[]⟩, .int .i64 0] 35
  have hz : ((w.alloc (.cells #[.string ⟨s.toArray⟩, .int .i64 er] 35)).alloc (.cells #[.string ⟨#[]⟩, .int .i64 0] 35)).heap.size = w.heap.size + 2 := by simp
  go_enter Try.func89, Try.ntmps89
  go_upto_region 1 with fail
  generalize (w.alloc (.cells #[.string ⟨s.toArray⟩, .int .i64 er] 35)).alloc (.cells #[.string ⟨#[]⟩, .int .i64 0] 35) = w1 at *
  have c0 := cell_at h1 0 (v := .string ⟨s.toArray⟩) rfl
  have c1 := cell_at h1 1 (v := .int .i64 er) rfl
  have H1 := Lib.hid (And.intro h2 (And.intro hb hz))
  clear h1 h2 hb hz
  go_wp2_with fail
  refine Calls.mono (cM w1) ?_
  rintro e w2 ⟨rfl, hb2⟩
  obtain ⟨h2, hb, hz⟩ := H1.out
  have hx2 := below_at hb2 (lt_heap h2) h2
  have hb02 := hb.trans (hb2.mono hb.size)
  have hP := heap_alloc_self w2 (.cells #[.string ⟨q.s.toArray⟩, .int .i64 q.e] 35)
  have hb23 : Below w2.heap.size w2 (w2.alloc (.cells #[.string ⟨q.s.toArray⟩, .int .i64 q.e] 35)) := (Below.refl _ _).alloc (Nat.le_refl _) _
  have hz2' : w.heap.size + 2 ≤ w2.heap.size := by have := hb2.size; omega
  have H3 := Lib.hid (And.intro (below_at hb23 (lt_heap hx2) hx2) (And.intro hP (And.intro (hb02.trans (hb23.mono hb02.size)) hz2')))
  clear h2 hb hz H1 hx2 hb02 hP hb23 hz2' hb2 c0 c1 cM
  go_upto_region 2 with fail
  generalize w2.alloc (.cells #[.string ⟨q.s.toArray⟩, .int .i64 q.e] 35) = w3 at *
  obtain ⟨B, hB⟩ : ∃ B, w2.heap.size = B := ⟨_, rfl⟩
  rw [hB] at H3
  try rw [hB]
  clear hB
  have hnil : (w3.alloc (.cells #[] 3)).ownsRow (B + 1) 3 1 (.slice (some ⟨w3.heap.size, 0, none⟩) 0 0) 0 (iCells []) := World.ownsRow_lit (base := B + 1) w3 #[] 0 (by have := lt_heap H3.out.2.1; omega) (by decide) (by simp)
  have hb34 : Below w3.heap.size w3 (w3.alloc (.cells #[] 3)) := (Below.refl _ _).alloc (Nat.le_refl _) _
  have H4 := Lib.hid (And.intro (below_at hb34 (lt_heap H3.out.1) H3.out.1) (And.intro (below_at hb34 (lt_heap H3.out.2.1) H3.out.2.1) (And.intro (H3.out.2.2.1.trans (hb34.mono H3.out.2.2.1.size)) (And.intro H3.out.2.2.2 hnil))))
  clear hnil hb34 H3
  go_upto_block 0 with fail
  generalize w3.alloc (.cells #[] 3) = w4 at *
  generalize w3.heap.size = g3 at *
  go_wp2_with fail
  go_loopw [10, 11] (fun ov iv wr => ∃ (k : Nat) (v : Value) (p : RS) (l : List Int), ov = v ∧ iv = .int .i64 k ∧ k ≤ m ∧ Hid ((intsR q L k).1 = p ∧ outR q L k = l) ∧ Hid (wr.heap[w.heap.size + 1]? = some (.cells #[.string ⟨#[]⟩, .int .i64 0] 35) ∧ wr.heap[B]? = some (.cells #[.string ⟨p.s.toArray⟩, .int .i64 p.e] 35) ∧ Below w.heap.size w wr ∧ wr.ownsRow (B + 1) 3 1 v l.length (iCells l))) (fun _ iv _ => m - (intOf iv).toNat)
  case atStart => exact ⟨0, _, q, [], rfl, rfl, by omega, Lib.hid ⟨rfl, rfl⟩, Lib.hid ⟨H4.out.1, H4.out.2.1, H4.out.2.2.1, H4.out.2.2.2.2⟩⟩
  case round =>
    obtain ⟨k, v, p, l, rfl, rfl, hk, HP, HW⟩ := hrel
    have hBw : w.heap.size + 2 ≤ B := H4.out.2.2.2.1
    obtain ⟨oa, oc, rfl⟩ := owns_form HW.out.2.2.2
    obtain ⟨c0, c1, fz⟩ := two_cellsR HW.out.2.1
    have hll : l.length = k := by rw [← HP.out.2, outR_len]
    rw [hll] at HW
    rw [hll]
    by_cases hlt : k < m
    · have hki : (k : Int) < (m : Int) := by omega
      have hokp : ROk p := by rw [← HP.out.1]; exact HQ.out.1.ints L k
      have hlp : p.s.length ≤ 1000000 := by rw [← HP.out.1]; exact Nat.le_trans (ints_len _ _ _) HQ.out.2
      have cI := rintG p L wr hL0 hL1 hokp hlp
      obtain ⟨p2, hp2⟩ : ∃ p2, p.numS L = p2 := ⟨_, rfl⟩
      obtain ⟨U, hU⟩ : ∃ U : Int, (p.numV L : Int) = U := ⟨_, rfl⟩
      rw [hp2, hU] at cI
      have HN := Lib.hid (show (intsR q L (k + 1)).1 = p2 ∧ outR q L (k + 1) = l ++ [U] from ⟨by rw [intsR_next, HP.out.1, hp2], by rw [outR, HP.out.1, hU, HP.out.2]⟩)
      have HLL := Lib.hid hll
      unfold rC at cI
      clear hokp hlp hp2 hU fz hll
      go_wp2_with fail
      refine Calls.mono cI ?_
      rintro e w5 ⟨rfl, hb5⟩
      have hP6 := heap_alloc_self w5 (.cells #[.string ⟨p2.s.toArray⟩, .int .i64 p2.e] 35)
      have hb56 : Below w5.heap.size w5 (w5.alloc (.cells #[.string ⟨p2.s.toArray⟩, .int .i64 p2.e] 35)) := (Below.refl _ _).alloc (Nat.le_refl _) _
      have hbr6 : Below wr.heap.size wr (w5.alloc (.cells #[.string ⟨p2.s.toArray⟩, .int .i64 p2.e] 35)) := hb5.trans (hb56.mono hb5.size)
      have hBr : B < wr.heap.size := lt_heap HW.out.2.1
      have H6 := Lib.hid (And.intro hP6 (And.intro hbr6 (show B < w5.heap.size from Nat.lt_of_lt_of_le hBr hb5.size)))
      clear hb5 hP6 hb56 hbr6 cI c0 c1
      go_upto_region 7 with fail
      generalize w5.alloc (.cells #[.string ⟨p2.s.toArray⟩, .int .i64 p2.e] 35) = w6 at *
      obtain ⟨N5, hN5⟩ : ∃ N5, w5.heap.size = N5 := ⟨_, rfl⟩
      rw [hN5] at H6
      try rw [hN5]
      clear hN5
      have hB6 := below_at H6.out.2.1 (lt_heap HW.out.2.1) HW.out.2.1
      obtain ⟨d0, d1, -⟩ := two_cellsR H6.out.1
      obtain ⟨b0, b1, bf⟩ := two_cellsR hB6
      have hs1 : (w6.setCell ⟨B, 0, none⟩ (.string ⟨p2.s.toArray⟩)).heap[B]? = some (.cells #[.string ⟨p2.s.toArray⟩, .int .i64 p.e] 35) := heap_set_self hB6 0 _
      have hs2 : ((w6.setCell ⟨B, 0, none⟩ (.string ⟨p2.s.toArray⟩)).setCell ⟨B, 1, none⟩ (.int .i64 p2.e)).heap[B]? = some (.cells #[.string ⟨p2.s.toArray⟩, .int .i64 p2.e] 35) := heap_set_self hs1 1 _
      have hO : Only B w6 ((w6.setCell ⟨B, 0, none⟩ (.string ⟨p2.s.toArray⟩)).setCell ⟨B, 1, none⟩ (.int .i64 p2.e)) := ((Only.refl _ _).set 0 _).set 1 _
      have hc6 := below_at H6.out.2.1 (lt_heap HW.out.1) HW.out.1
      have H7 := Lib.hid (And.intro ((hO.block _ (lt_heap hc6) (by omega)).trans hc6) (And.intro hs2 (And.intro ((HW.out.2.2.1.trans (H6.out.2.1.mono HW.out.2.2.1.size)).trans (hO.below (B := w.heap.size) (by omega) (Nat.le_trans HW.out.2.2.1.size H6.out.2.1.size))) (own_past (owns_below HW.out.2.2.2 H6.out.2.1) hO (by omega)))))
      clear hB6 hs1 hs2 hO hc6
      go_upto_region 8 with fail
      clear d0 d1 b0 b1 bf
      generalize (w6.setCell ⟨B, 0, none⟩ (.string ⟨p2.s.toArray⟩)).setCell ⟨B, 1, none⟩ (.int .i64 p2.e) = w7 at *
      have hown8 := owns_below H7.out.2.2.2 ((Below.refl _ _).alloc (Nat.le_refl _) (.cells #[.int .i64 U] 3))
      have hB7 := lt_heap H7.out.2.1
      have HO8 := Lib.hid hown8
      clear hown8
      go_wp2_with (at_builtin; refine wp_app Try.underlying22 hi hz0 hz1 hz2 rfl (by decide) rfl _ _ rfl (B + 1) _ k (iCells l) rfl HO8.out _ 1 (iCells [U]) rfl (SR.lit _ _ #[.int .i64 U] 1 1 (by decide) rfl) ?c2 ?c3 ?c4 ?c5 ?_)
      case c2 => intro y hy; simp [iCells] at hy; subst hy; rfl
      case c3 => unfold maxLen; omega
      case c4 => omega
      case c5 => simp; omega
      intro v2 w8 own2 hg2
      have hkeep : ∀ (b : Nat) (c : Array Value) (t : TypeId), w7.heap[b]? = some (.cells c t) → t ≠ 3 → w8.heap[b]? = some (.cells c t) := by
        intro b c t hbk ht
        refine (hg2.block b (by have := lt_heap hbk; simp; omega) fun e => ?_).trans ((Below.heap_alloc _ _ _ (lt_heap hbk)).trans hbk)
        obtain ⟨cc, hcc⟩ := own_typeN HO8.out e.symm
        rw [Below.heap_alloc _ _ _ (lt_heap hbk), hbk] at hcc
        cases hcc
        exact ht rfl
      have HW2 := Lib.hid (show w8.heap[w.heap.size + 1]? = some (.cells #[.string ⟨#[]⟩, .int .i64 0] 35) ∧ w8.heap[B]? = some (.cells #[.string ⟨p2.s.toArray⟩, .int .i64 p2.e] 35) ∧ Below w.heap.size w w8 ∧ w8.ownsRow (B + 1) 3 1 v2 (l ++ [U]).length (iCells (l ++ [U])) from
        ⟨hkeep _ _ _ H7.out.1 (by decide), hkeep _ _ _ H7.out.2.1 (by decide), (H7.out.2.2.1.alloc H7.out.2.2.1.size _).grown hg2 (by have := H7.out.2.2.1.size; simp; omega) (fun j e => by have := (HO8.out.lt j e).1; omega), by
          rw [List.length_append, HLL.out, show iCells (l ++ [U]) = iCells l ++ iCells [U] by simp [iCells]]
          exact own2⟩)
      obtain ⟨a3, c3, rfl⟩ := owns_form3 own2
      clear own2 hg2 hkeep
      go_wp2_with fail
      go_roundw
      case rel => exact ⟨k + 1, _, p2, l ++ [U], rfl, by go_num, by omega, HN, HW2⟩
      case measure => simp [intOf]; omega
    · obtain rfl : k = m := by omega
      have hpF : p = F := by rw [← HP.out.1, HF.out.1]
      subst hpF
      obtain ⟨z0, z1, zf⟩ := two_cellsR (q := ⟨[], 0⟩) HW.out.1
      have hs1 : (wr.setCell ⟨w.heap.size + 1, 0, none⟩ (.string ⟨p.s.toArray⟩)).heap[w.heap.size + 1]? = some (.cells #[.string ⟨p.s.toArray⟩, .int .i64 0] 35) := heap_set_self HW.out.1 0 _
      have hs2 : ((wr.setCell ⟨w.heap.size + 1, 0, none⟩ (.string ⟨p.s.toArray⟩)).setCell ⟨w.heap.size + 1, 1, none⟩ (.int .i64 p.e)).heap[w.heap.size + 1]? = some (.cells #[.string ⟨p.s.toArray⟩, .int .i64 p.e] 35) := heap_set_self hs1 1 _
      have hO : Only (w.heap.size + 1) wr ((wr.setCell ⟨w.heap.size + 1, 0, none⟩ (.string ⟨p.s.toArray⟩)).setCell ⟨w.heap.size + 1, 1, none⟩ (.int .i64 p.e)) := ((Only.refl _ _).set 0 _).set 1 _
      have HE := Lib.hid (And.intro hs2 (And.intro (HW.out.2.2.1.trans (hO.below (B := w.heap.size) (by omega) HW.out.2.2.1.size)) (own_past HW.out.2.2.2 hO (by omega))))
      have HLL := Lib.hid hll
      clear hs1 hs2 hO hll
      by_cases hE : p.e = 0
      · have hVl : V = l := by rw [HF.out.2, if_neg (by simpa using hE), intsR_out q L k (by rw [HP.out.1]; exact hE), HP.out.2]
        have HVL := Lib.hid hVl
        have HE0 := Lib.hid hE
        have u1 : (p.e != 0) = false := by simpa using hE
        clear hVl hE
        go_wp2_with fail
        generalize (wr.setCell ⟨w.heap.size + 1, 0, none⟩ (.string ⟨p.s.toArray⟩)).setCell ⟨w.heap.size + 1, 1, none⟩ (.int .i64 p.e) = wf at *
        obtain ⟨y0, y1, -⟩ := two_cellsR HE.out.1
        refine bodyPost_ret (v := .tuple #[.agg #[.string ⟨p.s.toArray⟩, .int .i64 p.e], .slice oa k oc]) (by simp [results, Try.results89, go_sem, y0, y1]) rfl ?_
        refine ⟨_, rfl, ?_, HE.out.2.1⟩
        rw [HVL.out, HLL.out]
        exact owns_baseD HE.out.2.2 (by omega)
      · have hVl : V = [] := by rw [HF.out.2, if_pos hE]
        have HVL := Lib.hid hVl
        have u1 : (p.e != 0) = true := by simpa using hE
        have u2 : (p.e == 0) = false := by simpa using hE
        clear hVl hE
        go_wp2_with fail
        generalize (wr.setCell ⟨w.heap.size + 1, 0, none⟩ (.string ⟨p.s.toArray⟩)).setCell ⟨w.heap.size + 1, 1, none⟩ (.int .i64 p.e) = wf at *
        obtain ⟨y0, y1, -⟩ := two_cellsR HE.out.1
        refine bodyPost_ret (v := .tuple #[.agg #[.string ⟨p.s.toArray⟩, .int .i64 p.e], .slice none 0 0]) (by simp [results, Try.results89, go_sem, y0, y1]) rfl ?_
        refine ⟨_, rfl, ?_, HE.out.2.1⟩
        rw [HVL.out]
        exact World.ownsRow_nil _ _ _ _
end Go.Proofs.Ytlhjgpedmnjbpaa
