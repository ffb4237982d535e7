/-
  Several texts, laid together.
-/
import Derived.Test.YtjaaddjbmimjoaaMh13
/-
  A configuration out of whatever bytes: conf.Take.
-/

namespace Go.Proofs.Ytjaaddjbmimjoaa
open Go.RowKit
set_option linter.unusedVariables false
set_option linter.unusedSimpArgs false

/-- what taking a configuration leaves of a source, and what it tells -/
def RS.midK (q : RS) : RS := ((q.listS 3 1048576).listS 3 5).listS 3 5
def RS.hdL (q : RS) : List Int := q.listV 3 1048576
def RS.mrL (q : RS) : List Int := (q.listS 3 1048576).listV 3 5
def RS.chL (q : RS) : List Int := ((q.listS 3 1048576).listS 3 5).listV 3 5
def rawC (h m c : List Int) : CF := if h.length = 3 then ⟨h.getD 0 0, h.getD 1 0, h.getD 2 0, m, c⟩ else ⟨0, 0, 0, m, c⟩
def RS.confS1 (q : RS) : RS := if q.hdL.length = 3 then q.midK else q.midK.fail 3
def RS.confS (q : RS) : RS := if mayC (rawC q.hdL q.mrL q.chL) = true then q.confS1 else q.confS1.fail 3
def RS.confV (q : RS) : CF := if q.confS.e ≠ 0 then ⟨0, 0, 0, [], []⟩ else rawC q.hdL q.mrL q.chL
theorem listV_len (q : RS) (many limit : Int) (h : 0 ≤ many) : ((q.listV many limit).length : Int) ≤ many := by
  unfold RS.listV
  split
  · simpa using h
  · have h1 := intsR_len (q.numS many.toNat) limit.toNat (q.numV many.toNat)
    have h2 := numV_le q many.toNat
    omega
theorem rawC_M (h m c : List Int) : (rawC h m c).M = m := by unfold rawC; split <;> rfl
theorem rawC_C (h m c : List Int) : (rawC h m c).C = c := by unfold rawC; split <;> rfl
def CTakeP (b : Nat) (w : World) (c : CF) (S : RS) (ev : Ending) (w' : World) : Prop :=
  ∃ d1 s1 d2 s2, ev = .returned (.agg #[.int .i64 c.e, .int .i64 c.b, .int .i64 c.k, .slice d1 c.M.length s1, .slice d2 c.C.length s2]) ∧ CFO c (w.heap.size + 1) w' (.slice d1 c.M.length s1) (.slice d2 c.C.length s2) ∧ Src w' b S ∧ Only b w w'
def MidT (b s4 : Nat) (w4 : World) (c : CF) (a2 : Option Addr) (p2 : Nat) (a3 : Option Addr) (p3 : Nat) (S : RS) (wx : World) : Prop :=
  wx.heap[s4]? = some (.cells #[.int .i64 c.e, .int .i64 c.b, .int .i64 c.k, .slice a2 c.M.length p2, .slice a3 c.C.length p3] 24) ∧ Src wx b S ∧ Only b w4 wx
theorem onlyPast2 {w w4 w7 wf : World} {b : Nat} (h1 : Only b w w4) (h2 : Only b w4 w7) (h3 : Only w.heap.size w7 wf) : Only b w wf :=
  ⟨h3.os.trans (h2.os.trans h1.os), h3.tape.trans (h2.tape.trans h1.tape), h3.output.trans (h2.output.trans h1.output), Nat.le_trans h1.size (Nat.le_trans h2.size h3.size), fun k hk hne => (h3.block k (Nat.lt_of_lt_of_le hk (Nat.le_trans h1.size h2.size)) (by omega)).trans ((h2.block k (Nat.lt_of_lt_of_le hk h1.size) hne).trans (h1.block k hk hne))⟩
set_option maxHeartbeats 6400000 in
set_option maxRecDepth 40000 in
theorem ctakeG (q : RS) (b : Nat) (w : World) (h : Src w b q) :
    Calls Try.prog 53 #[.pointer (some ⟨b, 0, none⟩)] w (CTakeP b w q.confV q.confS) := by
  have hx := heap_alloc_self w (.cells #[.int .i64 0, .int .i64 0, .int .i64 0, .slice none 0 0, .slice none 0 0] 24)
  have hb : Below w.heap.size w (w.alloc (.cells #[.int .i64 0, .int .i64 0, .int .i64 0, .slice none 0 0, .slice none 0 0] 24)) := (Below.refl _ _).alloc (Nat.le_refl _) _
  have hbl : b < w.heap.size := lt_heap h
  have h1 : Src (w.alloc (.cells #[.int .i64 0, .int .i64 0, .int .i64 0, .slice none 0 0, .slice none 0 0] 24)) b _ := below_at hb hbl h
  have c1 := slist_src b q 3 1048576 _ (by decide) (by decide) h1
  have hz : w.heap.size + 1 ≤ (w.alloc (.cells #[.int .i64 0, .int .i64 0, .int .i64 0, .slice none 0 0, .slice none 0 0] 24)).heap.size := by simp
  obtain ⟨S2, hS2⟩ : ∃ S2, q.confS = S2 := ⟨_, rfl⟩
  obtain ⟨F, hF⟩ : ∃ F, q.confV = F := ⟨_, rfl⟩
  obtain ⟨q1, hq1⟩ : ∃ q1, q.listS 3 1048576 = q1 := ⟨_, rfl⟩
  obtain ⟨H, hH⟩ : ∃ H, q.hdL = H := ⟨_, rfl⟩
  obtain ⟨q2, hq2⟩ : ∃ q2, q1.listS 3 5 = q2 := ⟨_, rfl⟩
  obtain ⟨M, hM⟩ : ∃ M, q1.listV 3 5 = M := ⟨_, rfl⟩
  obtain ⟨q3, hq3⟩ : ∃ q3, q2.listS 3 5 = q3 := ⟨_, rfl⟩
  obtain ⟨C, hC⟩ : ∃ C, q2.listV 3 5 = C := ⟨_, rfl⟩
  have hmid : q.midK = q3 := by rw [RS.midK, hq1, hq2, hq3]
  have hmr : q.mrL = M := by rw [RS.mrL, hq1, hM]
  have hch : q.chL = C := by rw [RS.chL, hq1, hq2, hC]
  have hMl := listV_len q1 3 5 (by decide)
  have hCl := listV_len q2 3 5 (by decide)
  have hHl := listV_len q 3 1048576 (by decide)
  rw [hM] at hMl
  rw [hC] at hCl
  have hHl' : (H.length : Int) ≤ 3 := by rw [← hH]; exact hHl
  obtain ⟨c, hc⟩ : ∃ c, rawC H M C = c := ⟨_, rfl⟩
  have hcM : c.M = M := by rw [← hc, rawC_M]
  have hcC : c.C = C := by rw [← hc, rawC_C]
  obtain ⟨s1, hs1⟩ : ∃ s1, q.confS1 = s1 := ⟨_, rfl⟩
  have e1 : s1 = if H.length = 3 then q3 else q3.fail 3 := by rw [← hs1, RS.confS1, hH, hmid]
  have e2 : S2 = if mayC c = true then s1 else s1.fail 3 := by rw [← hS2, RS.confS, hH, hmr, hch, hc, hs1]
  have e3 : F = if S2.e ≠ 0 then ⟨0, 0, 0, [], []⟩ else c := by rw [← hF, RS.confV, hS2, hH, hmr, hch, hc]
  rw [hS2, hF]
  have HE := Lib.hid (And.intro e1 (And.intro e2 (And.intro e3 hc)))
  have HQ1 := Lib.hid hq1
  have HH := Lib.hid hH
  subst hcM hcC
  have HQ2 := Lib.hid (And.intro hq2 hM)
  have HQ3 := Lib.hid (And.intro hq3 hC)
  clear hS2 hF hq1 hH hq2 hM hq3 hC hmid hmr hch hs1 e1 e2 e3 hHl hc h1
  go_enter Try.func53, Try.ntmps53
  go_upto_region 1 with fail
  generalize w.alloc (.cells #[.int .i64 0, .int .i64 0, .int .i64 0, .slice none 0 0, .slice none 0 0] 24) = w1 at *
  have HX := Lib.hid (And.intro hx (And.intro hb hz))
  clear hx hb hz h
  go_wp2_with fail
  refine Calls.mono c1 ?_
  rintro ev w2 ⟨v1, rfl, o1, s2, t2⟩
  rw [HQ1.out] at s2
  rw [show q.listV 3 1048576 = H from HH.out] at o1
  obtain ⟨a1, p1, rfl⟩ := owns_form o1
  obtain ⟨nH, hnH⟩ : ∃ n, H.length = n := ⟨_, rfl⟩
  rw [hnH] at o1
  rw [hnH]
  have HNH := Lib.hid hnH
  rw [hnH] at hHl'
  clear hnH
  have c2 := slist_src b q1 3 5 w2 (by decide) (by decide) s2
  have HY := Lib.hid (And.intro o1 t2)
  clear c1 s2 o1 t2
  go_wp2_with fail
  refine Calls.mono c2 ?_
  rintro ev w3 ⟨v2, rfl, o2, s3, t3⟩
  rw [HQ2.out.1] at s3
  rw [HQ2.out.2] at o2
  obtain ⟨a2, p2, rfl⟩ := owns_form o2
  have c3 := slist_src b q2 3 5 w3 (by decide) (by decide) s3
  have HZ := Lib.hid (And.intro o2 t3)
  clear c2 s3 o2 t3
  go_wp2_with fail
  refine Calls.mono c3 ?_
  rintro ev w4 ⟨v3, rfl, o3, s4, t4⟩
  rw [HQ3.out.1] at s4
  rw [HQ3.out.2] at o3
  obtain ⟨a3, p3, rfl⟩ := owns_form o3
  obtain ⟨hx, hb, hz⟩ := HX.out
  obtain ⟨o1, t2⟩ := HY.out
  obtain ⟨o2, t3⟩ := HZ.out
  have z2 := t2.size
  have z3 := t3.size
  have z4 := t4.size
  have o1' := own_onlyD (own_onlyD (owns_baseD o1 hz) t3 (by omega)) t4 (by omega)
  have o2' := own_onlyD (owns_baseD o2 (show w.heap.size + 1 ≤ w2.heap.size by omega)) t4 (by omega)
  have o3' := owns_baseD o3 (show w.heap.size + 1 ≤ w3.heap.size by omega)
  have hO : Only b w w4 := ((onlyBe hb).trans t2).trans (t3.trans t4)
  have hx4 : w4.heap[w.heap.size]? = some _ := ((t2.trans (t3.trans t4)).block _ (lt_heap hx) (by omega)).trans hx
  have hz4 : w.heap.size + 1 ≤ w4.heap.size := by omega
  have H4 := Lib.hid (And.intro o1' (And.intro o2' (And.intro o3' (And.intro s4 (And.intro hO (And.intro hx4 hz4))))))
  clear HX HY HZ o1 o2 o3 t2 t3 t4 z2 z3 z4 o1' o2' o3' s4 hO hx4 hz4 hx hb hz c3
  have hP := heap_alloc_self w4 (.cells #[.int .i64 0, .int .i64 0, .int .i64 0, .slice a2 c.M.length p2, .slice a3 c.C.length p3] 24)
  have hb45 : Below w4.heap.size w4 (w4.alloc (.cells #[.int .i64 0, .int .i64 0, .int .i64 0, .slice a2 c.M.length p2, .slice a3 c.C.length p3] 24)) := (Below.refl _ _).alloc (Nat.le_refl _) _
  have HP := Lib.hid (And.intro hP hb45)
  clear hP hb45
  go_upto_region 3 with fail
  generalize w4.alloc (.cells #[.int .i64 0, .int .i64 0, .int .i64 0, .slice a2 c.M.length p2, .slice a3 c.C.length p3] 24) = w5 at *
  obtain ⟨N4, hN4⟩ : ∃ N4, w4.heap.size = N4 := ⟨_, rfl⟩
  try rw [hN4]
  have HN4 := Lib.hid hN4
  rw [hN4] at HP
  clear hN4
  obtain ⟨tb, htb⟩ : ∃ tb, ((nH : Int) != 3) = tb := ⟨_, rfl⟩
  go_upto_if 14 with fail
  go_cut [] (fun wx => MidT b N4 w4 c a2 p2 a3 p3 s1 wx)
  case first =>
    have hN4z := HN4.out
    have hw5 : b < w5.heap.size := by have := lt_heap HP.out.1; have := H4.out.2.2.2.2.2.2; omega
    have hs5 : Src w5 b q3 := below_at HP.out.2 (by have := H4.out.2.2.2.2.2.2; omega) H4.out.2.2.2.1
    have ho5 : Only b w4 w5 := onlyBe (by rw [hN4z]; exact HP.out.2)
    by_cases h3 : nH = 3
    · subst h3
      have h3 := HNH.out
      have hcr := HE.out.2.2.2
      have ec0 : c.e = H.getD 0 0 := by have := congrArg CF.e hcr; rw [rawC, if_pos h3] at this; exact this.symm
      have ec1 : c.b = H.getD 1 0 := by have := congrArg CF.b hcr; rw [rawC, if_pos h3] at this; exact this.symm
      have ec2 : c.k = H.getD 2 0 := by have := congrArg CF.k hcr; rw [rawC, if_pos h3] at this; exact this.symm
      have es1 : s1 = q3 := by rw [HE.out.1, if_pos h3]
      obtain ⟨g, off, hgo, hg, hcell⟩ := (show SR w4 (.slice a1 3 p1) 1 3 (nCells H) from SR.owns H4.out.1).int (l := H) (by omega)
      subst hgo
      have g0 := hcell 0 (by omega)
      have g1 := hcell 1 (by omega)
      have g2 := hcell 2 (by omega)
      rw [← ec0] at g0
      rw [← ec1] at g1
      rw [← ec2] at g2
      rw [hN4z] at hg
      have k0 : w5.cell? ⟨g, off, none⟩ = some (.int .i64 c.e) := (HP.out.2.cell (p := ⟨g, off, none⟩) hg).trans (by simpa using g0)
      have k1 : w5.cell? ⟨g, off + 1, none⟩ = some (.int .i64 c.b) := (HP.out.2.cell (p := ⟨g, off + 1, none⟩) hg).trans (by simpa using g1)
      have k2 : w5.cell? ⟨g, off + 2, none⟩ = some (.int .i64 c.k) := (HP.out.2.cell (p := ⟨g, off + 2, none⟩) hg).trans (by simpa using g2)
      have pp0 := cell_atD HP.out.1 0 (v := .int .i64 0) rfl
      have pp1 := cell_atD HP.out.1 1 (v := .int .i64 0) rfl
      have pp2 := cell_atD HP.out.1 2 (v := .int .i64 0) rfl
      have pp3 := cell_atD HP.out.1 3 (v := .slice a2 c.M.length p2) rfl
      have pp4 := cell_atD HP.out.1 4 (v := .slice a3 c.C.length p3) rfl
      have fz : ∀ j, w5.frozen? ⟨N4, j, none⟩ = false := fun j => by have := HP.out.1; simp [World.frozen?, this]
      have hne : g ≠ N4 := by omega
      have HG := Lib.hid (show MidT b N4 w4 c a2 p2 a3 p3 s1 (((w5.setCell ⟨N4, 0, none⟩ (.int .i64 c.e)).setCell ⟨N4, 1, none⟩ (.int .i64 c.b)).setCell ⟨N4, 2, none⟩ (.int .i64 c.k)).drew from
        ⟨heap_set_self (heap_set_self (heap_set_self HP.out.1 0 _) 1 _) 2 _, by
          rw [es1]
          exact below_at (below_drew' ((((Below.refl N4 w5).setCell (p := ⟨N4, 0, none⟩) (Nat.le_refl _) _).setCell (p := ⟨N4, 1, none⟩) (Nat.le_refl _) _).setCell (p := ⟨N4, 2, none⟩) (Nat.le_refl _) _)) (by have := H4.out.2.2.2.2.2.2; omega) hs5,
          onlyBe (by rw [hN4z]; exact below_drew' (((HP.out.2.setCell (p := ⟨N4, 0, none⟩) (Nat.le_refl _) _).setCell (p := ⟨N4, 1, none⟩) (Nat.le_refl _) _).setCell (p := ⟨N4, 2, none⟩) (Nat.le_refl _) _))⟩)
      obtain rfl : tb = false := by rw [← htb]; decide
      clear htb
      clear hcell g0 g1 g2 ec0 ec1 ec2 es1 hcr hs5 ho5 hN4z h3
      go_upto_region 5 with fail
      go_region_law (fail)
      all_goals
        go_wp2_with fail
        go_meet
        exact HG.out
    · have h3' := h3
      rw [← HNH.out] at h3
      have hcr := HE.out.2.2.2
      have ec0 : c.e = 0 := by have := congrArg CF.e hcr; rw [rawC, if_neg h3] at this; exact this.symm
      have ec1 : c.b = 0 := by have := congrArg CF.b hcr; rw [rawC, if_neg h3] at this; exact this.symm
      have ec2 : c.k = 0 := by have := congrArg CF.k hcr; rw [rawC, if_neg h3] at this; exact this.symm
      have es1 : q3.fail 3 = s1 := by rw [HE.out.1, if_neg h3]
      obtain rfl : tb = true := by
        rw [← htb]
        simp only [bne_iff_ne, ne_eq]
        omega
      clear htb
      have cw := wrong_src b q3 3 w5 hs5
      rw [es1] at cw
      have HC := Lib.hid (And.intro ec0 (And.intro ec1 (And.intro ec2 ho5)))
      clear hcr ec0 ec1 ec2 es1 hs5 ho5 hN4z h3 h3'
      go_wp2_with fail
      refine Calls.mono cw ?_
      rintro ev w6 ⟨rfl, hs6, ho6⟩
      have HM := Lib.hid (show MidT b N4 w4 c a2 p2 a3 p3 s1 w6 from ⟨by
        rw [HC.out.1, HC.out.2.1, HC.out.2.2.1]
        exact (ho6.block N4 (lt_heap HP.out.1) (by have := H4.out.2.2.2.2.2.2; have := HN4.out; omega)).trans HP.out.1, hs6, HC.out.2.2.2.trans ho6⟩)
      clear hs6 ho6 cw
      go_wp2_with fail
      go_meet
      exact HM.out
  case rest =>
    obtain ⟨hP6, hs6, ho6⟩ := hcut
    have q0 := cell_atD hP6 0 (v := .int .i64 c.e) rfl
    have q1 := cell_atD hP6 1 (v := .int .i64 c.b) rfl
    have q2 := cell_atD hP6 2 (v := .int .i64 c.k) rfl
    have q3 := cell_atD hP6 3 (v := .slice a2 c.M.length p2) rfl
    have q4 := cell_atD hP6 4 (v := .slice a3 c.C.length p3) rfl
    have hL2 := own_onlyD H4.out.2.1 ho6 (by omega)
    have hL3 := own_onlyD H4.out.2.2.1 ho6 (by omega)
    have cm := cmayD c a2 a3 p2 p3 wc ⟨SR.owns hL2, SR.owns hL3⟩
    have H6 := Lib.hid (And.intro hP6 (And.intro hs6 ho6))
    obtain ⟨W6, hW6⟩ : ∃ W, wc = W := ⟨_, rfl⟩
    subst hW6
    clear hP6 hs6 ho6 hL2 hL3
    obtain ⟨mb, hmb⟩ : ∃ mb, mayC c = mb := ⟨_, rfl⟩
    rw [hmb] at cm
    have HMB := Lib.hid hmb
    clear hmb
    go_wp2_with fail
    refine Calls.mono cm ?_
    rintro ev w7 ⟨rfl, hb7⟩
    have hs7 := below_at hb7 (lt_heap H6.out.2.1) H6.out.2.1
    have cw := wrong_src b s1 3 w7 hs7
    have H7 := Lib.hid (And.intro (below_at hb7 (lt_heap H6.out.1) H6.out.1) (And.intro (H6.out.2.2.trans (onlyBe hb7)) hs7))
    clear cm hb7 hs7 q0 q1 q2 q3 q4
    go_upto_if 31 with fail
    go_cut [] (fun wx => MidT b N4 w4 c a2 p2 a3 p3 S2 wx)
    case first =>
      cases mb
      · have es2 : s1.fail 3 = S2 := by rw [HE.out.2.1, if_neg (by rw [HMB.out]; decide)]
        rw [es2] at cw
        clear es2
        go_wp2_with fail
        refine Calls.mono cw ?_
        rintro ev w8 ⟨rfl, hs8, ho8⟩
        have HM := Lib.hid (show MidT b N4 w4 c a2 p2 a3 p3 S2 w8 from ⟨(ho8.block N4 (lt_heap H7.out.1) (by have := H4.out.2.2.2.2.2.2; have := HN4.out; omega)).trans H7.out.1, hs8, H7.out.2.1.trans ho8⟩)
        clear hs8 ho8 cw
        go_wp2_with fail
        go_meet
        exact HM.out
      · have es2 : s1 = S2 := by rw [HE.out.2.1, if_pos HMB.out]
        have HM := Lib.hid (show MidT b N4 w4 c a2 p2 a3 p3 S2 w7 from ⟨H7.out.1, by rw [← es2]; exact H7.out.2.2, H7.out.2.1⟩)
        clear es2 cw
        go_wp2_with fail
        go_meet
        exact HM.out
    case rest =>
      clear cw H6 H7
      obtain ⟨hP7, hs7, ho7⟩ := hcut
      obtain ⟨W7, hW7⟩ : ∃ W, wc = W := ⟨_, rfl⟩
      subst hW7
      have ce := err_some b S2.e wc (Src.c1 hs7)
      have hx7 : wc.heap[w.heap.size]? = some _ := (ho7.block _ (by have := H4.out.2.2.2.2.2.2; omega) (by omega)).trans H4.out.2.2.2.2.2.1
      have q0 := cell_atD hP7 0 (v := .int .i64 c.e) rfl
      have q1 := cell_atD hP7 1 (v := .int .i64 c.b) rfl
      have q2 := cell_atD hP7 2 (v := .int .i64 c.k) rfl
      have q3 := cell_atD hP7 3 (v := .slice a2 c.M.length p2) rfl
      have q4 := cell_atD hP7 4 (v := .slice a3 c.C.length p3) rfl
      have z0 := cell_atD hx7 0 (v := .int .i64 0) rfl
      have z1 := cell_atD hx7 1 (v := .int .i64 0) rfl
      have z2 := cell_atD hx7 2 (v := .int .i64 0) rfl
      have z3 := cell_atD hx7 3 (v := .slice none 0 0) rfl
      have z4 := cell_atD hx7 4 (v := .slice none 0 0) rfl
      have fz : ∀ j, wc.frozen? ⟨w.heap.size, j, none⟩ = false := fun j => by simp [World.frozen?, hx7]
      have hL2 := own_onlyD H4.out.2.1 ho7 (by omega)
      have hL3 := own_onlyD H4.out.2.2.1 ho7 (by omega)
      have H7 := Lib.hid (And.intro hP7 (And.intro hs7 (And.intro ho7 (And.intro hx7 (And.intro hL2 hL3)))))
      clear hP7 hs7 ho7 hL2 hL3
      by_cases hE : S2.e = 0
      · have eF : F = c := by rw [HE.out.2.2.1, if_neg (by simpa using hE)]
        subst eF
        rw [hE] at ce
        have g1 : (wc.setCell ⟨w.heap.size, 0, none⟩ (.int .i64 F.e)).heap[w.heap.size]? = some (.cells #[.int .i64 F.e, .int .i64 0, .int .i64 0, .slice none 0 0, .slice none 0 0] 24) := heap_set_self hx7 0 _
        have g2 : ((wc.setCell ⟨w.heap.size, 0, none⟩ (.int .i64 F.e)).setCell ⟨w.heap.size, 1, none⟩ (.int .i64 F.b)).heap[w.heap.size]? = some (.cells #[.int .i64 F.e, .int .i64 F.b, .int .i64 0, .slice none 0 0, .slice none 0 0] 24) := heap_set_self g1 1 _
        have g3 : (((wc.setCell ⟨w.heap.size, 0, none⟩ (.int .i64 F.e)).setCell ⟨w.heap.size, 1, none⟩ (.int .i64 F.b)).setCell ⟨w.heap.size, 2, none⟩ (.int .i64 F.k)).heap[w.heap.size]? = some (.cells #[.int .i64 F.e, .int .i64 F.b, .int .i64 F.k, .slice none 0 0, .slice none 0 0] 24) := heap_set_self g2 2 _
        have g4 : ((((wc.setCell ⟨w.heap.size, 0, none⟩ (.int .i64 F.e)).setCell ⟨w.heap.size, 1, none⟩ (.int .i64 F.b)).setCell ⟨w.heap.size, 2, none⟩ (.int .i64 F.k)).setCell ⟨w.heap.size, 3, none⟩ (.slice a2 F.M.length p2)).heap[w.heap.size]? = some (.cells #[.int .i64 F.e, .int .i64 F.b, .int .i64 F.k, .slice a2 F.M.length p2, .slice none 0 0] 24) := heap_set_self g3 3 _
        have g5 : (((((wc.setCell ⟨w.heap.size, 0, none⟩ (.int .i64 F.e)).setCell ⟨w.heap.size, 1, none⟩ (.int .i64 F.b)).setCell ⟨w.heap.size, 2, none⟩ (.int .i64 F.k)).setCell ⟨w.heap.size, 3, none⟩ (.slice a2 F.M.length p2)).setCell ⟨w.heap.size, 4, none⟩ (.slice a3 F.C.length p3)).heap[w.heap.size]? = some (.cells #[.int .i64 F.e, .int .i64 F.b, .int .i64 F.k, .slice a2 F.M.length p2, .slice a3 F.C.length p3] 24) := heap_set_self g4 4 _
        have GI := Lib.hid g5
        have GO := Lib.hid (show Only w.heap.size wc (((((wc.setCell ⟨w.heap.size, 0, none⟩ (.int .i64 F.e)).setCell ⟨w.heap.size, 1, none⟩ (.int .i64 F.b)).setCell ⟨w.heap.size, 2, none⟩ (.int .i64 F.k)).setCell ⟨w.heap.size, 3, none⟩ (.slice a2 F.M.length p2)).setCell ⟨w.heap.size, 4, none⟩ (.slice a3 F.C.length p3)) from (((((Only.refl _ _).set 0 _).set 1 _).set 2 _).set 3 _).set 4 _)
        clear g1 g2 g3 g4 g5
        clear hx7 hE
        go_wp2_with fail
        refine Calls.mono ce ?_
        rintro ev w8 ⟨rfl, rfl⟩
        go_wp2_with fail
        generalize (((((wc.setCell ⟨w.heap.size, 0, none⟩ (.int .i64 F.e)).setCell ⟨w.heap.size, 1, none⟩ (.int .i64 F.b)).setCell ⟨w.heap.size, 2, none⟩ (.int .i64 F.k)).setCell ⟨w.heap.size, 3, none⟩ (.slice a2 F.M.length p2)).setCell ⟨w.heap.size, 4, none⟩ (.slice a3 F.C.length p3)) = wf at *
        have fi := GI.out
        have t0 := cell_atD fi 0 (v := .int .i64 F.e) rfl
        have t1 := cell_atD fi 1 (v := .int .i64 F.b) rfl
        have t2 := cell_atD fi 2 (v := .int .i64 F.k) rfl
        have t3 := cell_atD fi 3 (v := .slice a2 F.M.length p2) rfl
        have t4 := cell_atD fi 4 (v := .slice a3 F.C.length p3) rfl
        clear fi
        refine bodyPost_ret (v := .agg #[.int .i64 F.e, .int .i64 F.b, .int .i64 F.k, .slice a2 F.M.length p2, .slice a3 F.C.length p3]) (by simp [results, Try.results53, go_sem, t0, t1, t2, t3, t4]) rfl ?_
        obtain ⟨hP7, hs7, ho7, hx7, hL2, hL3⟩ := H7.out
        refine ⟨a2, p2, a3, p3, rfl, ⟨own_onlyD hL2 GO.out (by omega), own_onlyD hL3 GO.out (by omega)⟩, (GO.out.block b (lt_heap hs7) (by omega)).trans hs7, ?_⟩
        exact onlyPast2 H4.out.2.2.2.2.1 ho7 GO.out
      · have eF : F = ⟨0, 0, 0, [], []⟩ := by rw [HE.out.2.2.1, if_pos hE]
        subst eF
        have u1 : (S2.e != 0) = true := by simpa using hE
        have u2 : (S2.e == 0) = false := by simpa using hE
        have g1 : (wc.setCell ⟨w.heap.size, 0, none⟩ (.int .i64 0)).heap[w.heap.size]? = some (.cells #[.int .i64 0, .int .i64 0, .int .i64 0, .slice none 0 0, .slice none 0 0] 24) := heap_set_self hx7 0 _
        have g2 : ((wc.setCell ⟨w.heap.size, 0, none⟩ (.int .i64 0)).setCell ⟨w.heap.size, 1, none⟩ (.int .i64 0)).heap[w.heap.size]? = some (.cells #[.int .i64 0, .int .i64 0, .int .i64 0, .slice none 0 0, .slice none 0 0] 24) := heap_set_self g1 1 _
        have g3 : (((wc.setCell ⟨w.heap.size, 0, none⟩ (.int .i64 0)).setCell ⟨w.heap.size, 1, none⟩ (.int .i64 0)).setCell ⟨w.heap.size, 2, none⟩ (.int .i64 0)).heap[w.heap.size]? = some (.cells #[.int .i64 0, .int .i64 0, .int .i64 0, .slice none 0 0, .slice none 0 0] 24) := heap_set_self g2 2 _
        have g4 : ((((wc.setCell ⟨w.heap.size, 0, none⟩ (.int .i64 0)).setCell ⟨w.heap.size, 1, none⟩ (.int .i64 0)).setCell ⟨w.heap.size, 2, none⟩ (.int .i64 0)).setCell ⟨w.heap.size, 3, none⟩ (.slice none 0 0)).heap[w.heap.size]? = some (.cells #[.int .i64 0, .int .i64 0, .int .i64 0, .slice none 0 0, .slice none 0 0] 24) := heap_set_self g3 3 _
        have g5 : (((((wc.setCell ⟨w.heap.size, 0, none⟩ (.int .i64 0)).setCell ⟨w.heap.size, 1, none⟩ (.int .i64 0)).setCell ⟨w.heap.size, 2, none⟩ (.int .i64 0)).setCell ⟨w.heap.size, 3, none⟩ (.slice none 0 0)).setCell ⟨w.heap.size, 4, none⟩ (.slice none 0 0)).heap[w.heap.size]? = some (.cells #[.int .i64 0, .int .i64 0, .int .i64 0, .slice none 0 0, .slice none 0 0] 24) := heap_set_self g4 4 _
        have GI := Lib.hid g5
        have GO := Lib.hid (show Only w.heap.size wc (((((wc.setCell ⟨w.heap.size, 0, none⟩ (.int .i64 0)).setCell ⟨w.heap.size, 1, none⟩ (.int .i64 0)).setCell ⟨w.heap.size, 2, none⟩ (.int .i64 0)).setCell ⟨w.heap.size, 3, none⟩ (.slice none 0 0)).setCell ⟨w.heap.size, 4, none⟩ (.slice none 0 0)) from (((((Only.refl _ _).set 0 _).set 1 _).set 2 _).set 3 _).set 4 _)
        clear g1 g2 g3 g4 g5
        clear hx7 hE
        go_wp2_with fail
        refine Calls.mono ce ?_
        rintro ev w8 ⟨rfl, rfl⟩
        go_wp2_with fail
        generalize (((((wc.setCell ⟨w.heap.size, 0, none⟩ (.int .i64 0)).setCell ⟨w.heap.size, 1, none⟩ (.int .i64 0)).setCell ⟨w.heap.size, 2, none⟩ (.int .i64 0)).setCell ⟨w.heap.size, 3, none⟩ (.slice none 0 0)).setCell ⟨w.heap.size, 4, none⟩ (.slice none 0 0)) = wf at *
        have fi := GI.out
        have t0 := cell_atD fi 0 (v := .int .i64 0) rfl
        have t1 := cell_atD fi 1 (v := .int .i64 0) rfl
        have t2 := cell_atD fi 2 (v := .int .i64 0) rfl
        have t3 := cell_atD fi 3 (v := .slice none 0 0) rfl
        have t4 := cell_atD fi 4 (v := .slice none 0 0) rfl
        clear fi
        refine bodyPost_ret (v := .agg #[.int .i64 0, .int .i64 0, .int .i64 0, .slice none 0 0, .slice none 0 0]) (by simp [results, Try.results53, go_sem, t0, t1, t2, t3, t4]) rfl ?_
        obtain ⟨hP7, hs7, ho7, hx7, hL2, hL3⟩ := H7.out
        refine ⟨none, 0, none, 0, rfl, ⟨World.ownsRow_nil _ _ _ _, World.ownsRow_nil _ _ _ _⟩, (GO.out.block b (lt_heap hs7) (by omega)).trans hs7, ?_⟩
        exact onlyPast2 H4.out.2.2.2.2.1 ho7 GO.out
end Go.Proofs.Ytjaaddjbmimjoaa
