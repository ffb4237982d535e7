/-
  Several texts, laid together.
-/
import Derived.Test.YtjaaddjbmimjoaaMh14
import Derived.Test.YtjaaddjbmimjoaaMh11
/-
  A command out of whatever bytes: decide.Take.
-/


namespace Go.Proofs.Ytjaaddjbmimjoaa
open Go.RowKit
set_option linter.unusedVariables false
set_option linter.unusedSimpArgs false

/-- what taking a command leaves of a source, and what it tells -/
def RS.cmdC (q : RS) : CF := if q.numV 2 = 2 then ⟨(q.numS 2).numV 1048576, 0, 0, [], []⟩ else (q.numS 2).confV
def RS.cmdS1 (q : RS) : RS := if q.numV 2 = 2 then (q.numS 2).numS 1048576 else (q.numS 2).confS
def RS.cmdS (q : RS) : RS := if mayK (q.numV 2) q.cmdC = true then q.cmdS1 else q.cmdS1.fail 3
def RS.cmdK (q : RS) : Int := if q.cmdS.e ≠ 0 then 0 else q.numV 2
def RS.cmdV (q : RS) : CF := if q.cmdS.e ≠ 0 then ⟨0, 0, 0, [], []⟩ else q.cmdC
def DTakeP (b : Nat) (w : World) (K : Int) (c : CF) (S : RS) (ev : Ending) (w' : World) : Prop :=
  ∃ d1 s1 d2 s2, ev = .returned (.agg #[.int .i64 K, .int .i64 c.e, .int .i64 c.b, .int .i64 c.k, .slice d1 c.M.length s1, .slice d2 c.C.length s2]) ∧ CFO c (w.heap.size + 1) w' (.slice d1 c.M.length s1) (.slice d2 c.C.length s2) ∧ Src w' b S ∧ Only b w w'
def MidU (b N2 base : Nat) (w2 : World) (K : Nat) (c : CF) (S : RS) (wx : World) : Prop :=
  ∃ a2 p2 a3 p3, wx.heap[N2]? = some (.cells #[.int .i64 K, .int .i64 c.e, .int .i64 c.b, .int .i64 c.k, .slice a2 c.M.length p2, .slice a3 c.C.length p3] 26) ∧ Src wx b S ∧ Only b w2 wx ∧ CFO c base wx (.slice a2 c.M.length p2) (.slice a3 c.C.length p3)
theorem MidU.below {b N2 base : Nat} {w2 wx wy : World} {K : Nat} {c : CF} {S : RS} (h : MidU b N2 base w2 K c S wx) (hb : Below wx.heap.size wx wy) : MidU b N2 base w2 K c S wy := by
  obtain ⟨a2, p2, a3, p3, h1, h2, h3, h4⟩ := h
  exact ⟨a2, p2, a3, p3, below_at hb (lt_heap h1) h1, below_at hb (lt_heap h2) h2, h3.trans (onlyBe hb), h4.below hb⟩
theorem MidU.src {b N2 base : Nat} {w2 wx wy : World} {K : Nat} {c : CF} {S S' : RS} (h : MidU b N2 base w2 K c S wx) (hs : Src wy b S') (ho : Only b wx wy) (h1 : N2 ≠ b) (h2 : b < base) : MidU b N2 base w2 K c S' wy := by
  obtain ⟨a2, p2, a3, p3, g1, g2, g3, g4⟩ := h
  exact ⟨a2, p2, a3, p3, (ho.block N2 (lt_heap g1) h1).trans g1, hs, g3.trans ho, g4.only ho h2⟩
theorem onlyTwo {b g : Nat} {w w3 wf : World} (h1 : Only b w w3) (h2 : Only g w3 wf) (hg : w.heap.size ≤ g) : Only b w wf :=
  ⟨h2.os.trans h1.os, h2.tape.trans h1.tape, h2.output.trans h1.output, Nat.le_trans h1.size h2.size, fun k hk hne => (h2.block k (Nat.lt_of_lt_of_le hk h1.size) (by omega)).trans (h1.block k hk hne)⟩
set_option maxHeartbeats 6400000 in
set_option maxRecDepth 40000 in
theorem dtakeG (q : RS) (b : Nat) (w : World) (h : Src w b q) :
    Calls Try.prog 11 #[.pointer (some ⟨b, 0, none⟩)] w (DTakeP b w q.cmdK q.cmdV q.cmdS) := by
  have hx := heap_alloc_self w (.cells #[.int .i64 0, .int .i64 0, .int .i64 0, .int .i64 0, .slice none 0 0, .slice none 0 0] 26)
  have hb : Below w.heap.size w (w.alloc (.cells #[.int .i64 0, .int .i64 0, .int .i64 0, .int .i64 0, .slice none 0 0, .slice none 0 0] 26)) := (Below.refl _ _).alloc (Nat.le_refl _) _
  have hbl : b < w.heap.size := lt_heap h
  have h1 : Src (w.alloc (.cells #[.int .i64 0, .int .i64 0, .int .i64 0, .int .i64 0, .slice none 0 0, .slice none 0 0] 26)) b _ := below_at hb hbl h
  have c1 := int_src b q 2 _ (by decide) h1
  have hz : (w.alloc (.cells #[.int .i64 0, .int .i64 0, .int .i64 0, .int .i64 0, .slice none 0 0, .slice none 0 0] 26)).heap.size = w.heap.size + 1 := by simp
  obtain ⟨S2, hS2⟩ : ∃ S2, q.cmdS = S2 := ⟨_, rfl⟩
  obtain ⟨F, hF⟩ : ∃ F, q.cmdV = F := ⟨_, rfl⟩
  obtain ⟨FK, hFK⟩ : ∃ FK, q.cmdK = FK := ⟨_, rfl⟩
  obtain ⟨q1, hq1⟩ : ∃ q1, q.numS 2 = q1 := ⟨_, rfl⟩
  obtain ⟨K, hK⟩ : ∃ K, q.numV 2 = K := ⟨_, rfl⟩
  have hKl : K ≤ 2 := by rw [← hK]; exact numV_le q 2
  obtain ⟨c, hc⟩ : ∃ c, q.cmdC = c := ⟨_, rfl⟩
  obtain ⟨s1, hs1⟩ : ∃ s1, q.cmdS1 = s1 := ⟨_, rfl⟩
  have e0 : c = if K = 2 then ⟨q1.numV 1048576, 0, 0, [], []⟩ else q1.confV := by rw [← hc, RS.cmdC, hK, hq1]
  have e1 : s1 = if K = 2 then q1.numS 1048576 else q1.confS := by rw [← hs1, RS.cmdS1, hK, hq1]
  have e2 : S2 = if mayK K c = true then s1 else s1.fail 3 := by rw [← hS2, RS.cmdS, hK, hc, hs1]
  have e3 : F = if S2.e ≠ 0 then ⟨0, 0, 0, [], []⟩ else c := by rw [← hF, RS.cmdV, hS2, hc]
  have e4 : FK = if S2.e ≠ 0 then 0 else (K : Int) := by rw [← hFK, RS.cmdK, hS2, hK]
  rw [hS2, hF, hFK]
  have c1' : Calls Try.prog 52 #[.pointer (some ⟨b, 0, none⟩), .int .i64 2] (w.alloc (.cells #[.int .i64 0, .int .i64 0, .int .i64 0, .int .i64 0, .slice none 0 0, .slice none 0 0] 26)) fun e w' => e = .returned (.int .i64 K) ∧ Src w' b q1 ∧ Only b (w.alloc (.cells #[.int .i64 0, .int .i64 0, .int .i64 0, .int .i64 0, .slice none 0 0, .slice none 0 0] 26)) w' := by
    rw [← hK, ← hq1]
    exact c1
  have HE := Lib.hid (And.intro e0 (And.intro e1 (And.intro e2 (And.intro e3 e4))))
  clear hS2 hF hFK hq1 hK hc hs1 e0 e1 e2 e3 e4 h1 c1
  go_enter Try.func11, Try.ntmps11
  go_upto_region 1 with fail
  generalize w.alloc (.cells #[.int .i64 0, .int .i64 0, .int .i64 0, .int .i64 0, .slice none 0 0, .slice none 0 0] 26) = w1 at *
  have HX := Lib.hid (And.intro hx (And.intro hb hz))
  clear hx hb hz h
  go_wp2_with fail
  refine Calls.mono c1' ?_
  rintro ev w2 ⟨rfl, s2, t2⟩
  obtain ⟨hx, hb, hz⟩ := HX.out
  have hx2 : w2.heap[w.heap.size]? = some _ := (t2.block _ (lt_heap hx) (by omega)).trans hx
  have hz2 : w.heap.size + 1 ≤ w2.heap.size := by have := t2.size; omega
  have hO2 : Only b w w2 := (onlyBe hb).trans t2
  have hP := heap_alloc_self w2 (.cells #[.int .i64 K, .int .i64 0, .int .i64 0, .int .i64 0, .slice none 0 0, .slice none 0 0] 26)
  have hb23 : Below w2.heap.size w2 (w2.alloc (.cells #[.int .i64 K, .int .i64 0, .int .i64 0, .int .i64 0, .slice none 0 0, .slice none 0 0] 26)) := (Below.refl _ _).alloc (Nat.le_refl _) _
  have H2 := Lib.hid (And.intro hx2 (And.intro hz2 (And.intro hO2 s2)))
  have HP := Lib.hid (And.intro hP hb23)
  clear HX hx hb hz s2 t2 c1' hx2 hz2 hO2 hP hb23
  go_upto_region 2 with fail
  generalize w2.alloc (.cells #[.int .i64 K, .int .i64 0, .int .i64 0, .int .i64 0, .slice none 0 0, .slice none 0 0] 26) = w3 at *
  obtain ⟨N2, hN2⟩ : ∃ N2, w2.heap.size = N2 := ⟨_, rfl⟩
  try rw [hN2]
  have HN2 := Lib.hid hN2
  rw [hN2] at HP
  clear hN2
  have hk0 := cell_atD HP.out.1 0 (v := .int .i64 K) rfl
  obtain ⟨tb, htb⟩ : ∃ tb, ((K : Int) == 2) = tb := ⟨_, rfl⟩
  go_upto_if 9 with fail
  go_cut [] (fun wx => MidU b N2 (w.heap.size + 1) w2 K c s1 wx)
  case first =>
    have hNz := HN2.out
    have hs3 : Src w3 b q1 := below_at HP.out.2 (by have := H2.out.2.1; omega) H2.out.2.2.2
    have ho3 : Only b w2 w3 := onlyBe (by rw [hNz]; exact HP.out.2)
    have hN3 : N2 < w3.heap.size := lt_heap HP.out.1
    have hNb : N2 ≠ b := by have := H2.out.2.1; omega
    by_cases h2 : K = 2
    · subst h2
      obtain rfl : tb = true := by rw [← htb]; rfl
      have ci := int_src b q1 1048576 w3 (by decide) hs3
      obtain ⟨E, hE⟩ : ∃ E, (q1.numV 1048576 : Int) = E := ⟨_, rfl⟩
      have hcE : c = ⟨E, 0, 0, [], []⟩ := by rw [HE.out.1, if_pos rfl, hE]
      have hs1 : s1 = q1.numS 1048576 := by rw [HE.out.2.1, if_pos rfl]
      have ci' : Calls Try.prog 52 #[.pointer (some ⟨b, 0, none⟩), .int .i64 1048576] w3 fun e w' => e = .returned (.int .i64 E) ∧ Src w' b s1 ∧ Only b w3 w' := by
        rw [← hE, hs1]
        exact ci
      have HC := Lib.hid (And.intro hcE ho3)
      clear ci hE hcE hs1 htb hs3 ho3 hk0
      go_wp2_with fail
      refine Calls.mono ci' ?_
      rintro ev w4 ⟨rfl, s4, t4⟩
      have hx4 : w4.heap[N2]? = some _ := (t4.block _ hN3 hNb).trans HP.out.1
      have p0 := cell_atD hx4 0 (v := .int .i64 2) rfl
      have p1 := cell_atD hx4 1 (v := .int .i64 0) rfl
      have fz : ∀ j, w4.frozen? ⟨N2, j, none⟩ = false := fun j => by simp [World.frozen?, hx4]
      have g1 : (w4.setCell ⟨N2, 1, none⟩ (.int .i64 E)).heap[N2]? = some (.cells #[.int .i64 2, .int .i64 E, .int .i64 0, .int .i64 0, .slice none 0 0, .slice none 0 0] 26) := heap_set_self hx4 1 _
      have GI := Lib.hid g1
      have GO := Lib.hid (show Only (N2) w4 (w4.setCell ⟨N2, 1, none⟩ (.int .i64 E)) from (Only.refl _ _).set 1 _)
      clear g1
      have HM := Lib.hid (show MidU b N2 (w.heap.size + 1) w2 2 c s1 (w4.setCell ⟨N2, 1, none⟩ (.int .i64 E)) from by
        rw [HC.out.1]
        exact ⟨none, 0, none, 0, GI.out, (GO.out.block b (lt_heap s4) (fun e => hNb e.symm)).trans s4, onlyTwo (HC.out.2.trans t4) GO.out (by omega), World.ownsRow_nil _ _ _ _, World.ownsRow_nil _ _ _ _⟩)
      clear hx4 s4 t4 ci' GI GO
      go_wp2_with fail
      go_meet
      exact HM.out
    · have h2i : ¬ ((K : Int) = 2) := by omega
      obtain rfl : tb = false := by rw [← htb]; simpa using h2i
      have ci := ctakeG q1 b w3 hs3
      have hcE : c = q1.confV := by rw [HE.out.1, if_neg h2]
      have hs1 : s1 = q1.confS := by rw [HE.out.2.1, if_neg h2]
      rw [← hcE, ← hs1] at ci
      have HC := Lib.hid ho3
      clear hcE hs1 htb hs3 ho3 h2i hk0
      go_wp2_with fail
      refine Calls.mono ci ?_
      rintro ev w4 ⟨a2, p2, a3, p3, rfl, hO4, s4, t4⟩
      have hx4 : w4.heap[N2]? = some _ := (t4.block _ hN3 hNb).trans HP.out.1
      have p0 := cell_atD hx4 0 (v := .int .i64 K) rfl
      have p1 := cell_atD hx4 1 (v := .int .i64 0) rfl
      have p2' := cell_atD hx4 2 (v := .int .i64 0) rfl
      have p3' := cell_atD hx4 3 (v := .int .i64 0) rfl
      have p4 := cell_atD hx4 4 (v := .slice none 0 0) rfl
      have p5 := cell_atD hx4 5 (v := .slice none 0 0) rfl
      have fz : ∀ j, w4.frozen? ⟨N2, j, none⟩ = false := fun j => by simp [World.frozen?, hx4]
      have g1 : (w4.setCell ⟨N2, 1, none⟩ (.int .i64 c.e)).heap[N2]? = some (.cells #[.int .i64 K, .int .i64 c.e, .int .i64 0, .int .i64 0, .slice none 0 0, .slice none 0 0] 26) := heap_set_self hx4 1 _
      have g2 : ((w4.setCell ⟨N2, 1, none⟩ (.int .i64 c.e)).setCell ⟨N2, 2, none⟩ (.int .i64 c.b)).heap[N2]? = some (.cells #[.int .i64 K, .int .i64 c.e, .int .i64 c.b, .int .i64 0, .slice none 0 0, .slice none 0 0] 26) := heap_set_self g1 2 _
      have g3 : (((w4.setCell ⟨N2, 1, none⟩ (.int .i64 c.e)).setCell ⟨N2, 2, none⟩ (.int .i64 c.b)).setCell ⟨N2, 3, none⟩ (.int .i64 c.k)).heap[N2]? = some (.cells #[.int .i64 K, .int .i64 c.e, .int .i64 c.b, .int .i64 c.k, .slice none 0 0, .slice none 0 0] 26) := heap_set_self g2 3 _
      have g4 : ((((w4.setCell ⟨N2, 1, none⟩ (.int .i64 c.e)).setCell ⟨N2, 2, none⟩ (.int .i64 c.b)).setCell ⟨N2, 3, none⟩ (.int .i64 c.k)).setCell ⟨N2, 4, none⟩ (.slice a2 c.M.length p2)).heap[N2]? = some (.cells #[.int .i64 K, .int .i64 c.e, .int .i64 c.b, .int .i64 c.k, .slice a2 c.M.length p2, .slice none 0 0] 26) := heap_set_self g3 4 _
      have g5 : (((((w4.setCell ⟨N2, 1, none⟩ (.int .i64 c.e)).setCell ⟨N2, 2, none⟩ (.int .i64 c.b)).setCell ⟨N2, 3, none⟩ (.int .i64 c.k)).setCell ⟨N2, 4, none⟩ (.slice a2 c.M.length p2)).setCell ⟨N2, 5, none⟩ (.slice a3 c.C.length p3)).heap[N2]? = some (.cells #[.int .i64 K, .int .i64 c.e, .int .i64 c.b, .int .i64 c.k, .slice a2 c.M.length p2, .slice a3 c.C.length p3] 26) := heap_set_self g4 5 _
      have GI := Lib.hid g5
      have GO := Lib.hid (show Only (N2) w4 (((((w4.setCell ⟨N2, 1, none⟩ (.int .i64 c.e)).setCell ⟨N2, 2, none⟩ (.int .i64 c.b)).setCell ⟨N2, 3, none⟩ (.int .i64 c.k)).setCell ⟨N2, 4, none⟩ (.slice a2 c.M.length p2)).setCell ⟨N2, 5, none⟩ (.slice a3 c.C.length p3)) from (((((Only.refl _ _).set 1 _).set 2 _).set 3 _).set 4 _).set 5 _)
      clear g1 g2 g3 g4 g5
      have HM := Lib.hid (show MidU b N2 (w.heap.size + 1) w2 K c s1 (((((w4.setCell ⟨N2, 1, none⟩ (.int .i64 c.e)).setCell ⟨N2, 2, none⟩ (.int .i64 c.b)).setCell ⟨N2, 3, none⟩ (.int .i64 c.k)).setCell ⟨N2, 4, none⟩ (.slice a2 c.M.length p2)).setCell ⟨N2, 5, none⟩ (.slice a3 c.C.length p3)) from
        ⟨a2, p2, a3, p3, GI.out, (GO.out.block b (lt_heap s4) (fun e => hNb e.symm)).trans s4, onlyTwo (HC.out.trans t4) GO.out (by omega), CFO.base (hO4.only GO.out (by omega)) (by have := H2.out.2.1; omega)⟩)
      clear hx4 s4 t4 ci GI GO hO4
      go_wp2_with fail
      go_meet
      exact HM.out
  case rest =>
    have HM6 := Lib.hid hcut
    obtain ⟨a2, p2, a3, p3, hP6, hs6, ho6, hL6⟩ := hcut
    have m0 := cell_atD hP6 0 (v := .int .i64 K) rfl
    have m1 := cell_atD hP6 1 (v := .int .i64 c.e) rfl
    have m2 := cell_atD hP6 2 (v := .int .i64 c.b) rfl
    have m3 := cell_atD hP6 3 (v := .int .i64 c.k) rfl
    have m4 := cell_atD hP6 4 (v := .slice a2 c.M.length p2) rfl
    have m5 := cell_atD hP6 5 (v := .slice a3 c.C.length p3) rfl
    have cm := dmay K c a2 a3 p2 p3 wc hL6.at_
    obtain ⟨W6, hW6⟩ : ∃ W, wc = W := ⟨_, rfl⟩
    subst hW6
    obtain ⟨mb, hmb⟩ : ∃ mb, mayK K c = mb := ⟨_, rfl⟩
    rw [hmb] at cm
    have HMB := Lib.hid hmb
    clear hmb hP6 hs6 ho6 hL6 hk0
    go_wp2_with fail
    refine Calls.mono cm ?_
    rintro ev w7 ⟨rfl, hb7⟩
    have HM7 := Lib.hid (HM6.out.below hb7)
    have hs7 : Src w7 b s1 := by obtain ⟨_, _, _, _, _, hs, _⟩ := HM7.out; exact hs
    have cw := wrong_src b s1 3 w7 hs7
    clear cm hb7 hs7 m0 m1 m2 m3 m4 m5
    go_upto_if 19 with fail
    go_cut [] (fun wx => MidU b N2 (w.heap.size + 1) w2 K c S2 wx)
    case first =>
      cases mb
      · have es2 : s1.fail 3 = S2 := by rw [HE.out.2.2.1, if_neg (by rw [HMB.out]; decide)]
        rw [es2] at cw
        clear es2
        go_wp2_with fail
        refine Calls.mono cw ?_
        rintro ev w8 ⟨rfl, hs8, ho8⟩
        have HM := Lib.hid (HM7.out.src hs8 ho8 (by have := H2.out.2.1; have := HN2.out; omega) (by omega))
        clear hs8 ho8 cw
        go_wp2_with fail
        go_meet
        exact HM.out
      · have es2 : s1 = S2 := by rw [HE.out.2.2.1, if_pos HMB.out]
        have HM := Lib.hid (show MidU b N2 (w.heap.size + 1) w2 K c S2 w7 by rw [← es2]; exact HM7.out)
        clear es2 cw
        go_wp2_with fail
        go_meet
        exact HM.out
    case rest =>
      clear cw HM6 HM7 HMB
      obtain ⟨a2, p2, a3, p3, hP7, hs7, ho7, hL7⟩ := hcut
      obtain ⟨W7, hW7⟩ : ∃ W, wc = W := ⟨_, rfl⟩
      subst hW7
      have ce := err_some b S2.e wc (Src.c1 hs7)
      have hx7 : wc.heap[w.heap.size]? = some _ := (ho7.block _ (by have := H2.out.2.1; omega) (by omega)).trans H2.out.1
      have n0 := cell_atD hP7 0 (v := .int .i64 K) rfl
      have n1 := cell_atD hP7 1 (v := .int .i64 c.e) rfl
      have n2 := cell_atD hP7 2 (v := .int .i64 c.b) rfl
      have n3 := cell_atD hP7 3 (v := .int .i64 c.k) rfl
      have n4 := cell_atD hP7 4 (v := .slice a2 c.M.length p2) rfl
      have n5 := cell_atD hP7 5 (v := .slice a3 c.C.length p3) rfl
      have z0 := cell_atD hx7 0 (v := .int .i64 0) rfl
      have z1 := cell_atD hx7 1 (v := .int .i64 0) rfl
      have z2 := cell_atD hx7 2 (v := .int .i64 0) rfl
      have z3 := cell_atD hx7 3 (v := .int .i64 0) rfl
      have z4 := cell_atD hx7 4 (v := .slice none 0 0) rfl
      have z5 := cell_atD hx7 5 (v := .slice none 0 0) rfl
      have fz : ∀ j, wc.frozen? ⟨w.heap.size, j, none⟩ = false := fun j => by simp [World.frozen?, hx7]
      have H7 := Lib.hid (And.intro hP7 (And.intro hs7 (And.intro ho7 (And.intro hx7 hL7))))
      clear hP7 hs7 ho7 hL7
      by_cases hE : S2.e = 0
      · have eF : F = c := by rw [HE.out.2.2.2.1, if_neg (by simpa using hE)]
        have eK : FK = (K : Int) := by rw [HE.out.2.2.2.2, if_neg (by simpa using hE)]
        subst eF eK
        rw [hE] at ce
        have g1 : (wc.setCell ⟨w.heap.size, 0, none⟩ (.int .i64 (K : Int))).heap[w.heap.size]? = some (.cells #[.int .i64 (K : Int), .int .i64 0, .int .i64 0, .int .i64 0, .slice none 0 0, .slice none 0 0] 26) := heap_set_self hx7 0 _
        have g2 : ((wc.setCell ⟨w.heap.size, 0, none⟩ (.int .i64 (K : Int))).setCell ⟨w.heap.size, 1, none⟩ (.int .i64 F.e)).heap[w.heap.size]? = some (.cells #[.int .i64 (K : Int), .int .i64 F.e, .int .i64 0, .int .i64 0, .slice none 0 0, .slice none 0 0] 26) := heap_set_self g1 1 _
        have g3 : (((wc.setCell ⟨w.heap.size, 0, none⟩ (.int .i64 (K : Int))).setCell ⟨w.heap.size, 1, none⟩ (.int .i64 F.e)).setCell ⟨w.heap.size, 2, none⟩ (.int .i64 F.b)).heap[w.heap.size]? = some (.cells #[.int .i64 (K : Int), .int .i64 F.e, .int .i64 F.b, .int .i64 0, .slice none 0 0, .slice none 0 0] 26) := heap_set_self g2 2 _
        have g4 : ((((wc.setCell ⟨w.heap.size, 0, none⟩ (.int .i64 (K : Int))).setCell ⟨w.heap.size, 1, none⟩ (.int .i64 F.e)).setCell ⟨w.heap.size, 2, none⟩ (.int .i64 F.b)).setCell ⟨w.heap.size, 3, none⟩ (.int .i64 F.k)).heap[w.heap.size]? = some (.cells #[.int .i64 (K : Int), .int .i64 F.e, .int .i64 F.b, .int .i64 F.k, .slice none 0 0, .slice none 0 0] 26) := heap_set_self g3 3 _
        have g5 : (((((wc.setCell ⟨w.heap.size, 0, none⟩ (.int .i64 (K : Int))).setCell ⟨w.heap.size, 1, none⟩ (.int .i64 F.e)).setCell ⟨w.heap.size, 2, none⟩ (.int .i64 F.b)).setCell ⟨w.heap.size, 3, none⟩ (.int .i64 F.k)).setCell ⟨w.heap.size, 4, none⟩ (.slice a2 F.M.length p2)).heap[w.heap.size]? = some (.cells #[.int .i64 (K : Int), .int .i64 F.e, .int .i64 F.b, .int .i64 F.k, .slice a2 F.M.length p2, .slice none 0 0] 26) := heap_set_self g4 4 _
        have g6 : ((((((wc.setCell ⟨w.heap.size, 0, none⟩ (.int .i64 (K : Int))).setCell ⟨w.heap.size, 1, none⟩ (.int .i64 F.e)).setCell ⟨w.heap.size, 2, none⟩ (.int .i64 F.b)).setCell ⟨w.heap.size, 3, none⟩ (.int .i64 F.k)).setCell ⟨w.heap.size, 4, none⟩ (.slice a2 F.M.length p2)).setCell ⟨w.heap.size, 5, none⟩ (.slice a3 F.C.length p3)).heap[w.heap.size]? = some (.cells #[.int .i64 (K : Int), .int .i64 F.e, .int .i64 F.b, .int .i64 F.k, .slice a2 F.M.length p2, .slice a3 F.C.length p3] 26) := heap_set_self g5 5 _
        have GI := Lib.hid g6
        have GO := Lib.hid (show Only (w.heap.size) wc ((((((wc.setCell ⟨w.heap.size, 0, none⟩ (.int .i64 (K : Int))).setCell ⟨w.heap.size, 1, none⟩ (.int .i64 F.e)).setCell ⟨w.heap.size, 2, none⟩ (.int .i64 F.b)).setCell ⟨w.heap.size, 3, none⟩ (.int .i64 F.k)).setCell ⟨w.heap.size, 4, none⟩ (.slice a2 F.M.length p2)).setCell ⟨w.heap.size, 5, none⟩ (.slice a3 F.C.length p3)) from ((((((Only.refl _ _).set 0 _).set 1 _).set 2 _).set 3 _).set 4 _).set 5 _)
        clear g1 g2 g3 g4 g5 g6
        clear hx7 hE
        go_wp2_with fail
        refine Calls.mono ce ?_
        rintro ev w8 ⟨rfl, rfl⟩
        go_wp2_with fail
        generalize ((((((wc.setCell ⟨w.heap.size, 0, none⟩ (.int .i64 (K : Int))).setCell ⟨w.heap.size, 1, none⟩ (.int .i64 F.e)).setCell ⟨w.heap.size, 2, none⟩ (.int .i64 F.b)).setCell ⟨w.heap.size, 3, none⟩ (.int .i64 F.k)).setCell ⟨w.heap.size, 4, none⟩ (.slice a2 F.M.length p2)).setCell ⟨w.heap.size, 5, none⟩ (.slice a3 F.C.length p3)) = wf at *
        have fi := GI.out
        have t0 := cell_atD fi 0 (v := .int .i64 (K : Int)) rfl
        have t1 := cell_atD fi 1 (v := .int .i64 F.e) rfl
        have t2 := cell_atD fi 2 (v := .int .i64 F.b) rfl
        have t3 := cell_atD fi 3 (v := .int .i64 F.k) rfl
        have t4 := cell_atD fi 4 (v := .slice a2 F.M.length p2) rfl
        have t5 := cell_atD fi 5 (v := .slice a3 F.C.length p3) rfl
        clear fi
        refine bodyPost_ret (v := .agg #[.int .i64 (K : Int), .int .i64 F.e, .int .i64 F.b, .int .i64 F.k, .slice a2 F.M.length p2, .slice a3 F.C.length p3]) (by simp [results, Try.results11, go_sem, t0, t1, t2, t3, t4, t5]) rfl ?_
        obtain ⟨hP7, hs7, ho7, hx7, hL7⟩ := H7.out
        exact ⟨a2, p2, a3, p3, rfl, hL7.only GO.out (by omega), (GO.out.block b (lt_heap hs7) (by omega)).trans hs7, onlyPast2 H2.out.2.2.1 ho7 GO.out⟩
      · have eF : F = ⟨0, 0, 0, [], []⟩ := by rw [HE.out.2.2.2.1, if_pos hE]
        have eK : FK = 0 := by rw [HE.out.2.2.2.2, if_pos hE]
        subst eF eK
        have u1 : (S2.e != 0) = true := by simpa using hE
        have u2 : (S2.e == 0) = false := by simpa using hE
        have g1 : (wc.setCell ⟨w.heap.size, 0, none⟩ (.int .i64 0)).heap[w.heap.size]? = some (.cells #[.int .i64 0, .int .i64 0, .int .i64 0, .int .i64 0, .slice none 0 0, .slice none 0 0] 26) := heap_set_self hx7 0 _
        have g2 : ((wc.setCell ⟨w.heap.size, 0, none⟩ (.int .i64 0)).setCell ⟨w.heap.size, 1, none⟩ (.int .i64 0)).heap[w.heap.size]? = some (.cells #[.int .i64 0, .int .i64 0, .int .i64 0, .int .i64 0, .slice none 0 0, .slice none 0 0] 26) := heap_set_self g1 1 _
        have g3 : (((wc.setCell ⟨w.heap.size, 0, none⟩ (.int .i64 0)).setCell ⟨w.heap.size, 1, none⟩ (.int .i64 0)).setCell ⟨w.heap.size, 2, none⟩ (.int .i64 0)).heap[w.heap.size]? = some (.cells #[.int .i64 0, .int .i64 0, .int .i64 0, .int .i64 0, .slice none 0 0, .slice none 0 0] 26) := heap_set_self g2 2 _
        have g4 : ((((wc.setCell ⟨w.heap.size, 0, none⟩ (.int .i64 0)).setCell ⟨w.heap.size, 1, none⟩ (.int .i64 0)).setCell ⟨w.heap.size, 2, none⟩ (.int .i64 0)).setCell ⟨w.heap.size, 3, none⟩ (.int .i64 0)).heap[w.heap.size]? = some (.cells #[.int .i64 0, .int .i64 0, .int .i64 0, .int .i64 0, .slice none 0 0, .slice none 0 0] 26) := heap_set_self g3 3 _
        have g5 : (((((wc.setCell ⟨w.heap.size, 0, none⟩ (.int .i64 0)).setCell ⟨w.heap.size, 1, none⟩ (.int .i64 0)).setCell ⟨w.heap.size, 2, none⟩ (.int .i64 0)).setCell ⟨w.heap.size, 3, none⟩ (.int .i64 0)).setCell ⟨w.heap.size, 4, none⟩ (.slice none 0 0)).heap[w.heap.size]? = some (.cells #[.int .i64 0, .int .i64 0, .int .i64 0, .int .i64 0, .slice none 0 0, .slice none 0 0] 26) := heap_set_self g4 4 _
        have g6 : ((((((wc.setCell ⟨w.heap.size, 0, none⟩ (.int .i64 0)).setCell ⟨w.heap.size, 1, none⟩ (.int .i64 0)).setCell ⟨w.heap.size, 2, none⟩ (.int .i64 0)).setCell ⟨w.heap.size, 3, none⟩ (.int .i64 0)).setCell ⟨w.heap.size, 4, none⟩ (.slice none 0 0)).setCell ⟨w.heap.size, 5, none⟩ (.slice none 0 0)).heap[w.heap.size]? = some (.cells #[.int .i64 0, .int .i64 0, .int .i64 0, .int .i64 0, .slice none 0 0, .slice none 0 0] 26) := heap_set_self g5 5 _
        have GI := Lib.hid g6
        have GO := Lib.hid (show Only (w.heap.size) wc ((((((wc.setCell ⟨w.heap.size, 0, none⟩ (.int .i64 0)).setCell ⟨w.heap.size, 1, none⟩ (.int .i64 0)).setCell ⟨w.heap.size, 2, none⟩ (.int .i64 0)).setCell ⟨w.heap.size, 3, none⟩ (.int .i64 0)).setCell ⟨w.heap.size, 4, none⟩ (.slice none 0 0)).setCell ⟨w.heap.size, 5, none⟩ (.slice none 0 0)) from ((((((Only.refl _ _).set 0 _).set 1 _).set 2 _).set 3 _).set 4 _).set 5 _)
        clear g1 g2 g3 g4 g5 g6
        clear hx7 hE
        go_wp2_with fail
        refine Calls.mono ce ?_
        rintro ev w8 ⟨rfl, rfl⟩
        go_wp2_with fail
        generalize ((((((wc.setCell ⟨w.heap.size, 0, none⟩ (.int .i64 0)).setCell ⟨w.heap.size, 1, none⟩ (.int .i64 0)).setCell ⟨w.heap.size, 2, none⟩ (.int .i64 0)).setCell ⟨w.heap.size, 3, none⟩ (.int .i64 0)).setCell ⟨w.heap.size, 4, none⟩ (.slice none 0 0)).setCell ⟨w.heap.size, 5, none⟩ (.slice none 0 0)) = wf at *
        have fi := GI.out
        have t0 := cell_atD fi 0 (v := .int .i64 0) rfl
        have t1 := cell_atD fi 1 (v := .int .i64 0) rfl
        have t2 := cell_atD fi 2 (v := .int .i64 0) rfl
        have t3 := cell_atD fi 3 (v := .int .i64 0) rfl
        have t4 := cell_atD fi 4 (v := .slice none 0 0) rfl
        have t5 := cell_atD fi 5 (v := .slice none 0 0) rfl
        clear fi
        refine bodyPost_ret (v := .agg #[.int .i64 0, .int .i64 0, .int .i64 0, .int .i64 0, .slice none 0 0, .slice none 0 0]) (by simp [results, Try.results11, go_sem, t0, t1, t2, t3, t4, t5]) rfl ?_
        obtain ⟨hP7, hs7, ho7, hx7, hL7⟩ := H7.out
        exact ⟨none, 0, none, 0, rfl, ⟨World.ownsRow_nil _ _ _ _, World.ownsRow_nil _ _ _ _⟩, (GO.out.block b (lt_heap hs7) (by omega)).trans hs7, onlyPast2 H2.out.2.2.1 ho7 GO.out⟩
end Go.Proofs.Ytjaaddjbmimjoaa
