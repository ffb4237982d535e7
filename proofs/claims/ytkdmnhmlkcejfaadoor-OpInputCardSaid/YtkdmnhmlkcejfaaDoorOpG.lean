/-
  What may not be is not begun; what is nothing does nothing: OpInput's walk.
-/
import Derived.Test.YtkdmnhmlkcejfaaDoorOpF
import Derived.Test.YtkdmnhmlkcejfaaDoorOpD
import Derived.Test.YtkdmnhmlkcejfaaDoorFits
namespace Go.Proofs.YtkdmnhmlkcejfaaDoor
open Go.RowKit
set_option linter.unusedVariables false
set_option linter.unusedSimpArgs false

/-- a slice of integers that came in by its shape -/
theorem fits_intsP {w : World} {a : Option Addr} {len cap : Nat} (h : Fits w (.slice (.int .i64)) [.slice a len cap]) : ∃ l : List Int, l.length = len ∧ SR w (.slice a len cap) 1 l.length (nCells l) := by
  obtain ⟨h1, h2, h3⟩ := h.slice
  rcases h3 with h0 | ⟨b, off, rfl, hb, he⟩
  · subst h0
    exact ⟨[], rfl, a, cap, rfl, h1, h2, rfl, .inl rfl⟩
  · refine ⟨(List.range len).map fun i => match w.cell? ⟨b, off + i, none⟩ with | some (.int _ z) => z | _ => 0, by simp, ?_⟩
    refine ⟨_, cap, by simp, by simpa using h1, h2, by simp [nCells], .inr ⟨b, off, rfl, hb, fun j u hj => ?_⟩⟩
    have hjl : j < len := by
      have := (List.getElem?_eq_some_iff.1 hj).1
      simpa [nCells] using this
    obtain ⟨ys, hl, hc, z, rfl, -⟩ := he j hjl
    have hcell : w.cell? ⟨b, off + j, none⟩ = some (.int .i64 z) := by simpa [Sh.size] using hc 0 _ rfl
    rw [hcell, ← hj]
    simp [nCells, hjl, hcell]
abbrev confSh : Sh := .two (.int .i64) (.two (.int .i64) (.two (.int .i64) (.two (.slice (.int .i64)) (.two (.slice (.int .i64)) .unit))))
/-- a configuration that came in -/
theorem fits_conf {w : World} {c : Array Value} (h : Fits w confSh c.toList) : ∃ (e b k : Int) (m n : Value) (M C : List Int), c = confA e b k m n ∧ SR w m 1 M.length (nCells M) ∧ SR w n 1 C.length (nCells C) := by
  obtain ⟨x0, y0, h0, ⟨e, rfl, -⟩, x1, y1, rfl, ⟨b, rfl, -⟩, x2, y2, rfl, ⟨k, rfl, -⟩, x3, y3, rfl, hM, x4, y4, rfl, hC, rfl⟩ := h
  obtain ⟨ma, ml, mc, rfl, hM'⟩ : ∃ a l q, x3 = [.slice a l q] ∧ Fits w (.slice (.int .i64)) [.slice a l q] := by
    obtain ⟨a, l, q, rfl, h⟩ := hM
    exact ⟨a, l, q, rfl, a, l, q, rfl, h⟩
  obtain ⟨ca, cl, cc, rfl, hC'⟩ : ∃ a l q, x4 = [.slice a l q] ∧ Fits w (.slice (.int .i64)) [.slice a l q] := by
    obtain ⟨a, l, q, rfl, h⟩ := hC
    exact ⟨a, l, q, rfl, a, l, q, rfl, h⟩
  obtain ⟨M0, hm1, hm0⟩ := fits_intsP hM'
  obtain ⟨C0, hc1, hc0⟩ := fits_intsP hC'
  subst hm1 hc1
  refine ⟨e, b, k, _, _, M0, C0, ?_, hm0, hc0⟩
  obtain ⟨l⟩ := c
  simp at h0
  rw [h0]
  rfl
theorem fits_item {w : World} {c : Array Value} (h : Fits w (.two (.int .u64) (.two .str .unit)) c.toList) : ∃ v s, c = itemA v s ∧ (Lit.int .u64 v).wf = true ∧ s.size ≤ maxLen := by
  obtain ⟨x0, y0, e0, ⟨v, rfl, hv⟩, x1, y1, rfl, ⟨s, rfl, hs⟩, rfl⟩ := h
  refine ⟨v, s, ?_, hv, hs⟩
  apply Array.toList_inj.1
  rw [e0]; rfl

def goodB (e b what seq block : Int) (mb : Bool) : Bool := decide (1 ≤ e) && (decide (e ≤ 1048576) && ((b == 5 || b == 6) && (decide (0 ≤ what) && (decide (what ≤ 2) && (decide (0 ≤ seq) && (decide (seq ≤ 1048576) && (decide (0 ≤ block) && (decide (block < 64) && mb))))))))
theorem new_is (c : CF) (what seq block : Int) (mb : Bool) (hk : c.k ≤ 1048576) : newB what seq block mb c = (goodB c.e c.b what seq block mb && (decide (0 < c.C.length) && validB c)) := by
  have h1 : noneC c = true → c.e = 0 := fun h => by simp [noneC] at h; exact h.1
  apply Bool.eq_iff_iff.mpr
  unfold newB goodB validB mayC listsC nodesB allOk
  cases hn : noneC c
  · simp only [Bool.and_eq_true, Bool.or_eq_true, Bool.not_eq_true', decide_eq_true_eq, decide_eq_false_iff_not, beq_iff_eq, beq_eq_false_iff_ne, ne_eq, Bool.false_eq_true, false_or]
    constructor
    · rintro ⟨a1, a2, a3, a4, a5, a6, a7, a8, a9, a10, a11, a12, a13, ⟨⟨a14, -⟩, a15⟩, ⟨⟨a16, -⟩, a17⟩, a18⟩
      exact ⟨⟨by omega, by omega, by omega, by omega, by omega, by omega, by omega, by omega, by omega, a7⟩, a18, a14, a16, a15, a17, a12⟩
    · rintro ⟨⟨a1, a2, a3, a4, a5, a6, a7, a8, a9, a10⟩, a11, a12, a13, a14, a15, a16⟩
      exact ⟨by omega, by omega, by omega, by omega, by omega, by omega, a10, by omega, by omega, by omega, by omega, a16, hk, ⟨⟨a12, Nat.zero_le _⟩, a14⟩, ⟨⟨a13, Nat.zero_le _⟩, a15⟩, a11⟩
  · have he := h1 hn
    simp only [he, Bool.and_eq_true, Bool.or_eq_true, Bool.not_eq_true', decide_eq_true_eq, beq_self_eq_true, Bool.true_eq_false, false_and, and_false]
    constructor
    · intro h; exact h.elim
    · rintro ⟨⟨a1, -⟩, -⟩; omega
theorem nearM_le (b odd : Int) (M C : List Int) : (nearM b odd M C).length ≤ 4 := by
  unfold nearM
  split
  · simp
  · split
    · simp
    · rw [low4_len]; omega
theorem nearC_le (b odd : Int) (M C : List Int) : (nearC b odd M C).length ≤ 4 := by
  unfold nearC
  split
  · simp
  · split
    · simp
    · rw [low4_len]; omega
theorem nearK_le (k odd : Int) : nearK k odd ≤ 1048576 := by unfold nearK; split <;> omega
set_option maxHeartbeats 12800000 in
set_option maxRecDepth 100000 in
theorem opinput_law (c0 : Array Value) (l0 l1 l2 l3 : Int) (c2 : Array Value) (w : World) (f0 : Fits w confSh c0.toList) (h0 : (Lit.int .i64 l0).wf = true) (h1 : (Lit.int .i64 l1).wf = true) (h2 : (Lit.int .i64 l2).wf = true) (h3 : (Lit.int .i64 l3).wf = true) (f2 : Fits w (.two (.int .u64) (.two .str .unit)) c2.toList) (hT : TabO w) :
    Calls Tryd.prog 3 #[.agg c0, .agg #[.int .i64 l0, .int .i64 l1, .int .i64 l2, .int .i64 l3], .agg c2] w fun e w' => e = .returned (.bool true) ∧ Below w.heap.size w w' := by
  obtain ⟨e, b, k, m, n, M0, C0, rfl, hm, hc⟩ := fits_conf f0
  obtain ⟨ver, D, rfl, -, -⟩ := fits_item f2
  obtain ⟨mb, hmb⟩ := mayO ver D
  obtain ⟨ma, mc, rfl, -, -⟩ := hm.form
  obtain ⟨ca, cc, rfl, -, -⟩ := hc.form
  unfold confA itemA
  have HMC := Lib.hid (And.intro hm hc)
  have HMB := Lib.hid hmb
  have HT := Lib.hid hT
  clear f0 f2 h0 h1 h2 h3 hm hc hmb hT
  go_enter Tryd.func3, Tryd.ntmps3
  go_upto_region 1 with fail
  obtain ⟨w1, hw1⟩ : ∃ w1, ((w.alloc (.cells #[.int .i64 e, .int .i64 b, .int .i64 k, .slice ma M0.length mc, .slice ca C0.length cc] 24)).alloc (.cells #[.int .i64 l0, .int .i64 l1, .int .i64 l2, .int .i64 l3] 25)).alloc (.cells #[.int .u64 ver, .string D] 28) = w1 := ⟨_, rfl⟩
  have hb1 : Below w.heap.size w w1 := by rw [← hw1]; exact (((Below.refl _ _).alloc (Nat.le_refl _) _).alloc (by simp) _).alloc (by simp; omega) _
  have x0 : w1.heap[w.heap.size]? = some (.cells #[.int .i64 e, .int .i64 b, .int .i64 k, .slice ma M0.length mc, .slice ca C0.length cc] 24) := by rw [← hw1]; exact alloc_far (alloc_far (heap_alloc_self _ _))
  have x1 : w1.heap[w.heap.size + 1]? = some (.cells #[.int .i64 l0, .int .i64 l1, .int .i64 l2, .int .i64 l3] 25) := by
    rw [← hw1]
    refine alloc_far ?_
    have := heap_alloc_self (w.alloc (.cells #[.int .i64 e, .int .i64 b, .int .i64 k, .slice ma M0.length mc, .slice ca C0.length cc] 24)) (.cells #[.int .i64 l0, .int .i64 l1, .int .i64 l2, .int .i64 l3] 25)
    rwa [show (w.alloc (.cells #[.int .i64 e, .int .i64 b, .int .i64 k, .slice ma M0.length mc, .slice ca C0.length cc] 24)).heap.size = w.heap.size + 1 by simp] at this
  have x2 : w1.heap[w.heap.size + 2]? = some (.cells #[.int .u64 ver, .string D] 28) := by
    rw [← hw1]
    have := heap_alloc_self ((w.alloc (.cells #[.int .i64 e, .int .i64 b, .int .i64 k, .slice ma M0.length mc, .slice ca C0.length cc] 24)).alloc (.cells #[.int .i64 l0, .int .i64 l1, .int .i64 l2, .int .i64 l3] 25)) (.cells #[.int .u64 ver, .string D] 28)
    rwa [show ((w.alloc (.cells #[.int .i64 e, .int .i64 b, .int .i64 k, .slice ma M0.length mc, .slice ca C0.length cc] 24)).alloc (.cells #[.int .i64 l0, .int .i64 l1, .int .i64 l2, .int .i64 l3] 25)).heap.size = w.heap.size + 2 by simp] at this
  rw [hw1]
  clear hw1
  have cn := near_any e b k l3 _ _ M0 C0 w1 (HMC.out.1.below hb1) (HMC.out.2.below hb1)
  unfold confA at cn
  have p0 := cell_atD x0 0 (v := .int .i64 e) rfl
  have p1 := cell_atD x0 1 (v := .int .i64 b) rfl
  have p2 := cell_atD x0 2 (v := .int .i64 k) rfl
  have p3 := cell_atD x0 3 (v := .slice ma M0.length mc) rfl
  have p4 := cell_atD x0 4 (v := .slice ca C0.length cc) rfl
  have q3 := cell_atD x1 3 (v := .int .i64 l3) rfl
  have H1 := Lib.hid (And.intro x1 (And.intro x2 hb1))
  clear x0 x1 x2 hb1 HMC
  go_wp2_with fail
  refine Calls.mono cn ?_
  rintro ev w2 ⟨v1, v2, rfl, hs1, hs2, hb2⟩
  clear cn p0 p1 p2 p3 p4 q3
  obtain ⟨am, qm, rfl, -, -⟩ := hs1.form
  obtain ⟨ac, qc, rfl, -, -⟩ := hs2.form
  obtain ⟨c, hcf⟩ : ∃ c : CF, c = ⟨nearE e l3, nearB b l3, nearK k l3, nearM b l3 M0 C0, nearC b l3 M0 C0⟩ := ⟨_, rfl⟩
  have hM : nearM b l3 M0 C0 = c.M := by rw [hcf]
  have hC : nearC b l3 M0 C0 = c.C := by rw [hcf]
  have hsh : short c := ⟨by rw [← hM]; have := nearM_le b l3 M0 C0; omega, by rw [← hC]; have := nearC_le b l3 M0 C0; omega⟩
  have hkl : c.k ≤ 1048576 := by rw [hcf]; exact nearK_le k l3
  rw [hM] at hs1 ⊢
  rw [hC] at hs2 ⊢
  rw [show nearE e l3 = c.e by rw [hcf], show nearB b l3 = c.b by rw [hcf], show nearK k l3 = c.k by rw [hcf]]
  unfold confA
  have HSH := Lib.hid (And.intro hsh hkl)
  have H2 := Lib.hid (And.intro (below_at hb2 (lt_heap H1.out.1) H1.out.1) (And.intro (below_at hb2 (lt_heap H1.out.2.1) H1.out.2.1) (And.intro (H1.out.2.2.trans (hb2.mono H1.out.2.2.size)) (show CFat c w2 (.slice am c.M.length qm) (.slice ac c.C.length qc) from ⟨hs1, hs2⟩))))
  clear hs1 hs2 hb2 H1 hsh hkl hM hC hcf
  have hy := heap_alloc_self w2 (.cells #[.int .i64 c.e, .int .i64 c.b, .int .i64 c.k, .slice am c.M.length qm, .slice ac c.C.length qc] 24)
  have hby := (Below.refl w2.heap.size w2).alloc (Nat.le_refl _) (.cells #[.int .i64 c.e, .int .i64 c.b, .int .i64 c.k, .slice am c.M.length qm, .slice ac c.C.length qc] 24)
  go_upto_region 2 with fail
  obtain ⟨Y, hY⟩ : ∃ Y, w2.heap.size = Y := ⟨_, rfl⟩
  obtain ⟨w3, hw3⟩ : ∃ w3, w2.alloc (.cells #[.int .i64 c.e, .int .i64 c.b, .int .i64 c.k, .slice am c.M.length qm, .slice ac c.C.length qc] 24) = w3 := ⟨_, rfl⟩
  rw [hw3] at hy hby ⊢
  rw [hY] at hy ⊢
  clear hw3
  have H3 := Lib.hid (And.intro hy (And.intro (below_at hby (lt_heap H2.out.1) H2.out.1) (And.intro (below_at hby (lt_heap H2.out.2.1) H2.out.2.1) (And.intro (H2.out.2.2.1.trans (hby.mono H2.out.2.2.1.size)) (H2.out.2.2.2.below hby)))))
  clear hy hby H2 hY
  have r0 := cell_atD H3.out.1 0 (v := .int .i64 c.e) rfl
  have r1 := cell_atD H3.out.1 1 (v := .int .i64 c.b) rfl
  have r2 := cell_atD H3.out.1 2 (v := .int .i64 c.k) rfl
  have r3 := cell_atD H3.out.1 3 (v := .slice am c.M.length qm) rfl
  have r4 := cell_atD H3.out.1 4 (v := .slice ac c.C.length qc) rfl
  have rl0 := cell_atD H3.out.2.1 0 (v := .int .i64 l0) rfl
  have rl1 := cell_atD H3.out.2.1 1 (v := .int .i64 l1) rfl
  have rl2 := cell_atD H3.out.2.1 2 (v := .int .i64 l2) rfl
  have rx0 := cell_atD H3.out.2.2.1 0 (v := .int .u64 ver) rfl
  have rx1 := cell_atD H3.out.2.2.1 1 (v := .string D) rfl
  have cN := onew c am ac qm qc l0 l1 l2 ver D true mb w3 H3.out.2.2.2.2 HSH.out.1 HMB.out
  go_wp2_with fail
  refine Calls.mono cN ?_
  rintro ev w4 ⟨hb4, hor⟩
  obtain ⟨p, rfl, hp⟩ : ∃ p, ev = .returned (.pointer p) ∧ p.isSome = newB l0 l1 l2 mb c := by
    rcases hor with ⟨h1, rfl⟩ | ⟨h1, X, b1, p1, b2, p2, rfl, -, -⟩
    · exact ⟨none, rfl, h1.symm⟩
    · exact ⟨some ⟨X, 0, none⟩, rfl, h1.symm⟩
  clear hor cN r0 r1 r2 r3 r4 rl0 rl1 rl2 rx0 rx1
  have H4 := Lib.hid (And.intro (below_at hb4 (lt_heap H3.out.1) H3.out.1) (And.intro (below_at hb4 (lt_heap H3.out.2.1) H3.out.2.1) (And.intro (below_at hb4 (lt_heap H3.out.2.2.1) H3.out.2.2.1) (And.intro (H3.out.2.2.2.1.trans (hb4.mono H3.out.2.2.2.1.size)) (H3.out.2.2.2.2.below hb4)))))
  clear H3 hb4
  rw [new_is c l0 l1 l2 mb HSH.out.2] at hp
  obtain ⟨R, hR⟩ : ∃ R, p.isSome = R := ⟨_, rfl⟩
  rw [hR] at hp
  have HP := Lib.hid hp
  have HR := Lib.hid hR
  clear hp hR
  go_upto_region 3 with fail
  go_cut [9] (fun s wx => s = .bool R ∧ wx = w4)
  case first =>
    cases p
    all_goals
      go_wp2_with fail
      go_meet
      exact ⟨congrArg Value.bool HR.out, rfl⟩
  case rest =>
    obtain ⟨rfl, rfl⟩ := hcut
    clear HR
    have s0 := cell_atD H4.out.1 0 (v := .int .i64 c.e) rfl
    have s1 := cell_atD H4.out.1 1 (v := .int .i64 c.b) rfl
    have s2 := cell_atD H4.out.1 2 (v := .int .i64 c.k) rfl
    have s3 := cell_atD H4.out.1 3 (v := .slice am c.M.length qm) rfl
    have s4 := cell_atD H4.out.1 4 (v := .slice ac c.C.length qc) rfl
    have sl0 := cell_atD H4.out.2.1 0 (v := .int .i64 l0) rfl
    have sl1 := cell_atD H4.out.2.1 1 (v := .int .i64 l1) rfl
    have sl2 := cell_atD H4.out.2.1 2 (v := .int .i64 l2) rfl
    have sx0 := cell_atD H4.out.2.2.1 0 (v := .int .u64 ver) rfl
    have sx1 := cell_atD H4.out.2.2.1 1 (v := .string D) rfl
    go_upto_region 4 with fail
    go_cut [10] (fun s wx => s = .bool (goodB c.e c.b l0 l1 l2 mb) ∧ Below wc.heap.size wc wx)
    case first =>
      have cmb := HMB.out.2 wc
      unfold itemA at cmb
      rcases d1 : decide (1 ≤ c.e)
      case false =>
        have g1 : ¬ (1 ≤ c.e) := by simpa using d1
        go_wp2_with fail
        go_meet
        exact ⟨congrArg Value.bool (by unfold goodB; simp only [d1, Bool.false_and, Bool.true_and, Bool.and_false, Bool.or_true, Bool.true_or, Bool.or_false, Bool.or_self]), Below.refl _ _⟩
      have g1 : 1 ≤ c.e := by simpa using d1
      rcases d2 : decide (c.e ≤ 1048576)
      case false =>
        have g2 : ¬ (c.e ≤ 1048576) := by simpa using d2
        go_wp2_with fail
        go_meet
        exact ⟨congrArg Value.bool (by unfold goodB; simp only [d1, d2, Bool.false_and, Bool.true_and, Bool.and_false, Bool.or_true, Bool.true_or, Bool.or_false, Bool.or_self]), Below.refl _ _⟩
      have g2 : c.e ≤ 1048576 := by simpa using d2
      rcases d3 : (c.b == 5 || c.b == 6)
      case false =>
        have d3a : (c.b == 5) = false := by rw [Bool.or_eq_false_iff] at d3; exact d3.1
        have d3b : (c.b == 6) = false := by rw [Bool.or_eq_false_iff] at d3; exact d3.2
        clear d3
        have d3 : (c.b == 5 || c.b == 6) = false := by rw [d3a, d3b]; rfl
        have D3 := Lib.hid d3
        clear d3
        go_wp2_with fail
        go_meet
        exact ⟨congrArg Value.bool (by unfold goodB; simp only [d1, d2, D3.out, Bool.false_and, Bool.true_and, Bool.and_false]), Below.refl _ _⟩
      have D3 := Lib.hid d3
      rcases d3a : c.b == 5
      case false =>
        have d3b : (c.b == 6) = true := by rw [d3a] at d3; simpa using d3
        clear d3
        rcases d4 : decide (0 ≤ l0)
        case false =>
          have g4 : ¬ (0 ≤ l0) := by simpa using d4
          go_wp2_with fail
          go_meet
          exact ⟨congrArg Value.bool (by unfold goodB; simp only [d1, d2, D3.out, d4, Bool.false_and, Bool.true_and, Bool.and_false, Bool.or_true, Bool.true_or, Bool.or_false, Bool.or_self]), Below.refl _ _⟩
        have g4 : 0 ≤ l0 := by simpa using d4
        rcases d5 : decide (l0 ≤ 2)
        case false =>
          have g5 : ¬ (l0 ≤ 2) := by simpa using d5
          go_wp2_with fail
          go_meet
          exact ⟨congrArg Value.bool (by unfold goodB; simp only [d1, d2, D3.out, d4, d5, Bool.false_and, Bool.true_and, Bool.and_false, Bool.or_true, Bool.true_or, Bool.or_false, Bool.or_self]), Below.refl _ _⟩
        have g5 : l0 ≤ 2 := by simpa using d5
        rcases d6 : decide (0 ≤ l1)
        case false =>
          have g6 : ¬ (0 ≤ l1) := by simpa using d6
          go_wp2_with fail
          go_meet
          exact ⟨congrArg Value.bool (by unfold goodB; simp only [d1, d2, D3.out, d4, d5, d6, Bool.false_and, Bool.true_and, Bool.and_false, Bool.or_true, Bool.true_or, Bool.or_false, Bool.or_self]), Below.refl _ _⟩
        have g6 : 0 ≤ l1 := by simpa using d6
        rcases d7 : decide (l1 ≤ 1048576)
        case false =>
          have g7 : ¬ (l1 ≤ 1048576) := by simpa using d7
          go_wp2_with fail
          go_meet
          exact ⟨congrArg Value.bool (by unfold goodB; simp only [d1, d2, D3.out, d4, d5, d6, d7, Bool.false_and, Bool.true_and, Bool.and_false, Bool.or_true, Bool.true_or, Bool.or_false, Bool.or_self]), Below.refl _ _⟩
        have g7 : l1 ≤ 1048576 := by simpa using d7
        rcases d8 : decide (0 ≤ l2)
        case false =>
          have g8 : ¬ (0 ≤ l2) := by simpa using d8
          go_wp2_with fail
          go_meet
          exact ⟨congrArg Value.bool (by unfold goodB; simp only [d1, d2, D3.out, d4, d5, d6, d7, d8, Bool.false_and, Bool.true_and, Bool.and_false, Bool.or_true, Bool.true_or, Bool.or_false, Bool.or_self]), Below.refl _ _⟩
        have g8 : 0 ≤ l2 := by simpa using d8
        rcases d9 : decide (l2 < 64)
        case false =>
          have g9 : ¬ (l2 < 64) := by simpa using d9
          go_wp2_with fail
          go_meet
          exact ⟨congrArg Value.bool (by unfold goodB; simp only [d1, d2, D3.out, d4, d5, d6, d7, d8, d9, Bool.false_and, Bool.true_and, Bool.and_false, Bool.or_true, Bool.true_or, Bool.or_false, Bool.or_self]), Below.refl _ _⟩
        have g9 : l2 < 64 := by simpa using d9
        go_wp2_with fail
        refine Calls.mono cmb ?_
        rintro ev w5 ⟨rfl, hb5⟩
        have HB5 := Lib.hid hb5
        clear hb5 cmb
        go_wp2_with fail
        go_meet
        exact ⟨congrArg Value.bool (by unfold goodB; simp only [d1, d2, D3.out, d4, d5, d6, d7, d8, d9, Bool.true_and, Bool.and_true, Bool.or_true, Bool.true_or]), HB5.out⟩
      case true =>
        clear d3
        rcases d4 : decide (0 ≤ l0)
        case false =>
          have g4 : ¬ (0 ≤ l0) := by simpa using d4
          go_wp2_with fail
          go_meet
          exact ⟨congrArg Value.bool (by unfold goodB; simp only [d1, d2, D3.out, d4, Bool.false_and, Bool.true_and, Bool.and_false, Bool.or_true, Bool.true_or, Bool.or_false, Bool.or_self]), Below.refl _ _⟩
        have g4 : 0 ≤ l0 := by simpa using d4
        rcases d5 : decide (l0 ≤ 2)
        case false =>
          have g5 : ¬ (l0 ≤ 2) := by simpa using d5
          go_wp2_with fail
          go_meet
          exact ⟨congrArg Value.bool (by unfold goodB; simp only [d1, d2, D3.out, d4, d5, Bool.false_and, Bool.true_and, Bool.and_false, Bool.or_true, Bool.true_or, Bool.or_false, Bool.or_self]), Below.refl _ _⟩
        have g5 : l0 ≤ 2 := by simpa using d5
        rcases d6 : decide (0 ≤ l1)
        case false =>
          have g6 : ¬ (0 ≤ l1) := by simpa using d6
          go_wp2_with fail
          go_meet
          exact ⟨congrArg Value.bool (by unfold goodB; simp only [d1, d2, D3.out, d4, d5, d6, Bool.false_and, Bool.true_and, Bool.and_false, Bool.or_true, Bool.true_or, Bool.or_false, Bool.or_self]), Below.refl _ _⟩
        have g6 : 0 ≤ l1 := by simpa using d6
        rcases d7 : decide (l1 ≤ 1048576)
        case false =>
          have g7 : ¬ (l1 ≤ 1048576) := by simpa using d7
          go_wp2_with fail
          go_meet
          exact ⟨congrArg Value.bool (by unfold goodB; simp only [d1, d2, D3.out, d4, d5, d6, d7, Bool.false_and, Bool.true_and, Bool.and_false, Bool.or_true, Bool.true_or, Bool.or_false, Bool.or_self]), Below.refl _ _⟩
        have g7 : l1 ≤ 1048576 := by simpa using d7
        rcases d8 : decide (0 ≤ l2)
        case false =>
          have g8 : ¬ (0 ≤ l2) := by simpa using d8
          go_wp2_with fail
          go_meet
          exact ⟨congrArg Value.bool (by unfold goodB; simp only [d1, d2, D3.out, d4, d5, d6, d7, d8, Bool.false_and, Bool.true_and, Bool.and_false, Bool.or_true, Bool.true_or, Bool.or_false, Bool.or_self]), Below.refl _ _⟩
        have g8 : 0 ≤ l2 := by simpa using d8
        rcases d9 : decide (l2 < 64)
        case false =>
          have g9 : ¬ (l2 < 64) := by simpa using d9
          go_wp2_with fail
          go_meet
          exact ⟨congrArg Value.bool (by unfold goodB; simp only [d1, d2, D3.out, d4, d5, d6, d7, d8, d9, Bool.false_and, Bool.true_and, Bool.and_false, Bool.or_true, Bool.true_or, Bool.or_false, Bool.or_self]), Below.refl _ _⟩
        have g9 : l2 < 64 := by simpa using d9
        go_wp2_with fail
        refine Calls.mono cmb ?_
        rintro ev w5 ⟨rfl, hb5⟩
        have HB5 := Lib.hid hb5
        clear hb5 cmb
        go_wp2_with fail
        go_meet
        exact ⟨congrArg Value.bool (by unfold goodB; simp only [d1, d2, D3.out, d4, d5, d6, d7, d8, d9, Bool.true_and, Bool.and_true, Bool.or_true, Bool.true_or]), HB5.out⟩
    case rest =>
      obtain ⟨rfl, hb5⟩ := hcut
      have H5 := Lib.hid (And.intro (below_at hb5 (lt_heap H4.out.1) H4.out.1) (And.intro (H4.out.2.2.2.1.trans (hb5.mono H4.out.2.2.2.1.size)) (H4.out.2.2.2.2.below hb5)))
      obtain ⟨w5, hw5⟩ : ∃ w5, w5 = wc := ⟨_, rfl⟩
      subst hw5
      generalize goodB c.e c.b l0 l1 l2 mb = G at *
      have aw := awake32 w5 (HT.out.below H5.out.2.1)
      clear hb5 H4 s0 s1 s2 s3 s4 sl0 sl1 sl2 sx0 sx1
      go_wp2_with fail
      refine Calls.mono aw ?_
      rintro ev w6 ⟨rfl, hb6⟩
      have H6 := Lib.hid (And.intro (below_at hb6 (lt_heap H5.out.1) H5.out.1) (And.intro (H5.out.2.1.trans (hb6.mono H5.out.2.1.size)) (H5.out.2.2.below hb6)))
      have t0 := cell_atD H6.out.1 0 (v := .int .i64 c.e) rfl
      have t1 := cell_atD H6.out.1 1 (v := .int .i64 c.b) rfl
      have t2 := cell_atD H6.out.1 2 (v := .int .i64 c.k) rfl
      have t3 := cell_atD H6.out.1 3 (v := .slice am c.M.length qm) rfl
      have t4 := cell_atD H6.out.1 4 (v := .slice ac c.C.length qc) rfl
      have cv := ovalid c am ac qm qc w6 H6.out.2.2
      have hq : ∀ w, (binOp .eql 28 (.agg #[.int .u64 0, .string ⟨#[]⟩]) (.agg #[.int .u64 0, .string ⟨#[]⟩])).run Tryd.prog w = .ok (.bool true) w := fun w => item_same 0 ⟨#[]⟩ w (by decide) (by decide)
      have hg := itemguard
      have n1 := fun w => nstep w
      have n2 := fun w => nsay w
      have n3 := fun w => nhear w
      have n4 := fun w => nseq w
      have n5 := fun w => nblock w
      have n6 := fun w => nitem w
      have n7 := fun w => nloaded w
      have HB6 := Lib.hid H6.out.2.1
      clear aw hb6 H5 H6
      obtain ⟨V, hV⟩ : ∃ V, validB c = V := ⟨_, rfl⟩
      rw [hV] at cv HP
      clear hV
      have hcase : G = false ∧ R = false ∨ G = true ∧ ¬ (0 < c.C.length) ∧ R = false ∨ G = true ∧ 0 < c.C.length ∧ R = V := by
        have h := HP.out
        cases G
        · exact .inl ⟨rfl, h⟩
        · by_cases hl : 0 < c.C.length
          · exact .inr (.inr ⟨rfl, hl, by rw [h]; simp [hl]⟩)
          · exact .inr (.inl ⟨rfl, hl, by rw [h]; simp [hl]⟩)
      clear HP
      rcases hcase with ⟨rfl, rfl⟩ | ⟨rfl, hl, rfl⟩ | ⟨rfl, hl, rfl⟩
      · go_wp2_with fail
        refine Calls.mono (n1 _) ?_
        rintro ev wa ⟨rfl, rfl⟩
        go_wp2_with fail
        refine Calls.mono (n2 _) ?_
        rintro ev wa ⟨rfl, rfl⟩
        go_wp2_with fail
        refine Calls.mono (n3 _) ?_
        rintro ev wb ⟨rfl, hbb⟩
        have HBB := Lib.hid (HB6.out.trans (hbb.mono HB6.out.size))
        clear hbb
        go_wp2_with fail
        refine Calls.mono (n4 _) ?_
        rintro ev wa ⟨rfl, rfl⟩
        go_wp2_with fail
        refine Calls.mono (n5 _) ?_
        rintro ev wa ⟨rfl, rfl⟩
        go_wp2_with fail
        refine Calls.mono (n6 _) ?_
        rintro ev wd ⟨rfl, hbd⟩
        have HBD := Lib.hid (HBB.out.trans (hbd.mono HBB.out.size))
        clear hbd
        go_wp2_with fail
        refine Calls.mono (n7 _) ?_
        rintro ev wa ⟨rfl, rfl⟩
        go_wp2_with fail
        go_ret
        exact ⟨rfl, HBD.out⟩
      · have hli : ¬ (0 < (c.C.length : Int)) := by omega
        go_wp2_with fail
        refine Calls.mono (n1 _) ?_
        rintro ev wa ⟨rfl, rfl⟩
        go_wp2_with fail
        refine Calls.mono (n2 _) ?_
        rintro ev wa ⟨rfl, rfl⟩
        go_wp2_with fail
        refine Calls.mono (n3 _) ?_
        rintro ev wb ⟨rfl, hbb⟩
        have HBB := Lib.hid (HB6.out.trans (hbb.mono HB6.out.size))
        clear hbb
        go_wp2_with fail
        refine Calls.mono (n4 _) ?_
        rintro ev wa ⟨rfl, rfl⟩
        go_wp2_with fail
        refine Calls.mono (n5 _) ?_
        rintro ev wa ⟨rfl, rfl⟩
        go_wp2_with fail
        refine Calls.mono (n6 _) ?_
        rintro ev wd ⟨rfl, hbd⟩
        have HBD := Lib.hid (HBB.out.trans (hbd.mono HBB.out.size))
        clear hbd
        go_wp2_with fail
        refine Calls.mono (n7 _) ?_
        rintro ev wa ⟨rfl, rfl⟩
        go_wp2_with fail
        go_ret
        exact ⟨rfl, HBD.out⟩
      · have hli : 0 < (c.C.length : Int) := by omega
        go_wp2_with fail
        refine Calls.mono cv ?_
        rintro ev w7 ⟨rfl, hb7⟩
        have HB7 := Lib.hid (HB6.out.trans (hb7.mono HB6.out.size))
        clear hb7 cv t0 t1 t2 t3 t4
        cases R
        all_goals
          go_wp2_with fail
          refine Calls.mono (n1 _) ?_
          rintro ev wa ⟨rfl, rfl⟩
          go_wp2_with fail
          refine Calls.mono (n2 _) ?_
          rintro ev wa ⟨rfl, rfl⟩
          go_wp2_with fail
          refine Calls.mono (n3 _) ?_
          rintro ev wb ⟨rfl, hbb⟩
          have HBB := Lib.hid (HB7.out.trans (hbb.mono HB7.out.size))
          clear hbb
          go_wp2_with fail
          refine Calls.mono (n4 _) ?_
          rintro ev wa ⟨rfl, rfl⟩
          go_wp2_with fail
          refine Calls.mono (n5 _) ?_
          rintro ev wa ⟨rfl, rfl⟩
          go_wp2_with fail
          refine Calls.mono (n6 _) ?_
          rintro ev wd ⟨rfl, hbd⟩
          have HBD := Lib.hid (HBB.out.trans (hbd.mono HBB.out.size))
          clear hbd
          go_wp2_with fail
          refine Calls.mono (n7 _) ?_
          rintro ev wa ⟨rfl, rfl⟩
          go_wp2_with fail
          go_ret
          exact ⟨rfl, HBD.out⟩
end Go.Proofs.YtkdmnhmlkcejfaaDoor
