/-
  What is done with a block: New, whatever is asked for.
-/
import Derived.Test.YtkdmnhmlkcejfaaDoorOpA
namespace Go.Proofs.YtkdmnhmlkcejfaaDoor
open Go.RowKit
set_option linter.unusedVariables false
set_option linter.unusedSimpArgs false

theorem own_typeO {w : World} {base n size b : Nat} {e : TypeId} {v : Value} {xs : List Value} (h : w.ownsRow base e size v n xs) (q : v.ownBlock = some b) : ∃ c, w.heap[b]? = some (.cells c e) := by
  rcases h.2 with ⟨rfl, rfl⟩ | ⟨g, cap, cur, rfl, hb, hg, r⟩
  · cases q
  · simp [Value.ownBlock] at q
    subst q
    exact ⟨_, hg⟩
theorem own_moveO {w w' : World} {base n size : Nat} {e : TypeId} {v : Value} {xs : List Value} (h : w.ownsRow base e size v n xs) (hk : ∀ b, v.ownBlock = some b → w'.heap[b]? = w.heap[b]?) : w'.ownsRow base e size v n xs := by
  refine ⟨h.1, ?_⟩
  rcases h.2 with q | ⟨g, cap, cur, rfl, hg, hc, r⟩
  · exact .inl q
  · exact .inr ⟨g, cap, cur, rfl, hg, (hk g rfl).trans hc, r⟩
/-- a row of numbers stays while an object turns -/
theorem sr_onlyO {X base n : Nat} {w w' : World} {v : Value} {xs : List Value} {A : Array Value} (h : w.ownsRow base 3 1 v n xs) (hx : w.heap[X]? = some (.cells A 69)) (ho : Only X w w') : SR w' v 1 n xs :=
  SR.owns (own_moveO h fun b q => ho.block b (h.lt b q).2 fun e => by
    obtain ⟨c, hc⟩ := own_typeO h q
    rw [e, hx] at hc
    injection hc with hc
    injection hc with _ h2
    exact absurd h2 (by decide))
/-- the first step, or another one, of an object for which nobody must answer yet -/
theorem obegin (st : Int) (hst : st = 0 ∨ st = 1 ∨ st = 2 ∨ st = 3) (M : List Int) (a1 : Option Addr) (q1 : Nat) (X : Nat) (w : World) (e b k : Int) (v2 : Value) (what seq block ver : Int) (D : ByteArray) (sure : Bool) (step : Int) (best : Int) (loaded : Bool)
    (hx : w.heap[X]? = some (.cells (opA e b k (.slice a1 M.length q1) v2 what seq block ver D sure step false false false false false best loaded) 69))
    (hM : ∀ w', Only X w w' → SR w' (.slice a1 M.length q1) 1 M.length (nCells M)) :
    Calls Tryd.prog 27 #[.pointer (some ⟨X, 0, none⟩), .int .i64 st] w fun ev w' => ev = .returned (.tuple #[]) ∧ w'.heap[X]? = some (.cells (opA e b k (.slice a1 M.length q1) v2 what seq block ver D sure st (decide (st < 2) && decide (0 ∈ M)) (decide (st < 2) && decide (1 ∈ M)) (decide (st < 2) && decide (2 ∈ M)) (decide (st < 2) && decide (3 ∈ M)) (decide (st < 2) && decide (4 ∈ M)) best loaded) 69) ∧ Only X w w' := by
  have hc : (st = 0 ∨ st = 1) ∨ (st = 2 ∨ st = 3) := by omega
  rcases hc with h | h
  · refine (obegin_m st h M a1 q1 X w e b k v2 what seq block ver D sure step _ _ _ _ _ best loaded hx hM).mono ?_
    rintro ev w' ⟨h1, h2, h3⟩
    have hd : decide (st < 2) = true := by simp; omega
    simp only [hd, Bool.true_and]
    exact ⟨h1, h2, h3⟩
  · refine (obegin_c st (by omega) X w e b k _ v2 what seq block ver D sure step _ _ _ _ _ best loaded hx).mono ?_
    rintro ev w' ⟨h1, h2, h3⟩
    have hd : decide (st < 2) = false := by simp; omega
    simp only [hd, Bool.false_and]
    exact ⟨h1, h2, h3⟩
/-- may it be begun? -/
def newB (what seq block : Int) (mb : Bool) (c : CF) : Bool := !decide (what < 0) && (!decide (2 < what) && (!decide (seq < 0) && (!decide (1048576 < seq) && (!decide (block < 0) && (!decide (64 ≤ block) && (mb && (!(c.e == 0) && mayC c)))))))
def stepN (what : Int) (c : CF) : Int := firstB what (decide (0 < c.M.length))
def waitN (what : Int) (c : CF) (i : Int) : Bool := decide (stepN what c < 2) && decide (i ∈ c.M)
def NewO (c : CF) (what seq block ver : Int) (D : ByteArray) (sure mb : Bool) (w : World) (e : Ending) (w' : World) : Prop :=
  Below w.heap.size w w' ∧ ((newB what seq block mb c = false ∧ e = .returned (.pointer none)) ∨ (newB what seq block mb c = true ∧ ∃ (X : Nat) (b1 : Option Addr) (p1 : Nat) (b2 : Option Addr) (p2 : Nat), e = .returned (.pointer (some ⟨X, 0, none⟩)) ∧ w.heap.size ≤ X ∧
    w'.heap[X]? = some (.cells (opA c.e c.b c.k (.slice b1 c.M.length p1) (.slice b2 c.C.length p2) what seq block (if what = 1 then 0 else ver) (if what = 1 then ⟨#[]⟩ else D) sure (stepN what c) (waitN what c 0) (waitN what c 1) (waitN what c 2) (waitN what c 3) (waitN what c 4) 0 false) 69)))
theorem firstB_four (what : Int) (m : Bool) : firstB what m = 0 ∨ firstB what m = 1 ∨ firstB what m = 2 ∨ firstB what m = 3 := by
  unfold firstB
  split
  · cases m <;> simp
  · split <;> simp
set_option maxHeartbeats 6400000 in
set_option maxRecDepth 100000 in
theorem onew (c : CF) (a1 a2 : Option Addr) (q1 q2 : Nat) (what seq block ver : Int) (D : ByteArray) (sure mb : Bool) (w : World) (h : CFat c w (.slice a1 c.M.length q1) (.slice a2 c.C.length q2)) (hs : short c) (hm : MayO mb ver D) :
    Calls Tryd.prog 6 #[.agg #[.int .i64 c.e, .int .i64 c.b, .int .i64 c.k, .slice a1 c.M.length q1, .slice a2 c.C.length q2], .int .i64 what, .int .i64 seq, .int .i64 block, .agg #[.int .u64 ver, .string D], .bool sure] w (NewO c what seq block ver D sure mb w) := by
  have hx0 := alloc_far (o := .cells #[.int .u64 ver, .string D] 28) (heap_alloc_self w (.cells #[.int .i64 c.e, .int .i64 c.b, .int .i64 c.k, .slice a1 c.M.length q1, .slice a2 c.C.length q2] 24))
  have hy0 := heap_alloc_self (w.alloc (.cells #[.int .i64 c.e, .int .i64 c.b, .int .i64 c.k, .slice a1 c.M.length q1, .slice a2 c.C.length q2] 24)) (.cells #[.int .u64 ver, .string D] 28)
  have hz : (w.alloc (.cells #[.int .i64 c.e, .int .i64 c.b, .int .i64 c.k, .slice a1 c.M.length q1, .slice a2 c.C.length q2] 24)).heap.size = w.heap.size + 1 := by simp
  rw [hz] at hy0
  have hb : Below w.heap.size w ((w.alloc (.cells #[.int .i64 c.e, .int .i64 c.b, .int .i64 c.k, .slice a1 c.M.length q1, .slice a2 c.C.length q2] 24)).alloc (.cells #[.int .u64 ver, .string D] 28)) := ((Below.refl _ _).alloc (Nat.le_refl _) _).alloc (by simp) _
  have HC := Lib.hid h
  have HS := Lib.hid hs
  have HM := Lib.hid hm
  clear h hs hm
  go_enter Tryd.func6, Tryd.ntmps6
  go_upto_region 1 with fail
  generalize (w.alloc (.cells #[.int .i64 c.e, .int .i64 c.b, .int .i64 c.k, .slice a1 c.M.length q1, .slice a2 c.C.length q2] 24)).alloc (.cells #[.int .u64 ver, .string D] 28) = w1 at *
  have HX := Lib.hid (And.intro hx0 (And.intro hy0 hb))
  clear hx0 hy0 hb hz
  rcases d1 : decide (what < 0)
  case true =>
    have g1 : what < 0 := by simpa using d1
    go_wp2_with fail
    go_ret
    exact ⟨HX.out.2.2, .inl ⟨by unfold newB; simp only [d1, Bool.not_true, Bool.not_false, Bool.true_and, Bool.false_and], rfl⟩⟩
  have g1 : ¬ (what < 0) := by simpa using d1
  rcases d2 : decide (2 < what)
  case true =>
    have g2 : 2 < what := by simpa using d2
    go_wp2_with fail
    go_ret
    exact ⟨HX.out.2.2, .inl ⟨by unfold newB; simp only [d1, d2, Bool.not_true, Bool.not_false, Bool.true_and, Bool.false_and], rfl⟩⟩
  have g2 : ¬ (2 < what) := by simpa using d2
  rcases d3 : decide (seq < 0)
  case true =>
    have g3 : seq < 0 := by simpa using d3
    go_wp2_with fail
    go_ret
    exact ⟨HX.out.2.2, .inl ⟨by unfold newB; simp only [d1, d2, d3, Bool.not_true, Bool.not_false, Bool.true_and, Bool.false_and], rfl⟩⟩
  have g3 : ¬ (seq < 0) := by simpa using d3
  rcases d4 : decide (1048576 < seq)
  case true =>
    have g4 : 1048576 < seq := by simpa using d4
    go_wp2_with fail
    go_ret
    exact ⟨HX.out.2.2, .inl ⟨by unfold newB; simp only [d1, d2, d3, d4, Bool.not_true, Bool.not_false, Bool.true_and, Bool.false_and], rfl⟩⟩
  have g4 : ¬ (1048576 < seq) := by simpa using d4
  rcases d5 : decide (block < 0)
  case true =>
    have g5 : block < 0 := by simpa using d5
    go_wp2_with fail
    go_ret
    exact ⟨HX.out.2.2, .inl ⟨by unfold newB; simp only [d1, d2, d3, d4, d5, Bool.not_true, Bool.not_false, Bool.true_and, Bool.false_and], rfl⟩⟩
  have g5 : ¬ (block < 0) := by simpa using d5
  rcases d6 : decide (64 ≤ block)
  case true =>
    have g6 : 64 ≤ block := by simpa using d6
    go_wp2_with fail
    go_ret
    exact ⟨HX.out.2.2, .inl ⟨by unfold newB; simp only [d1, d2, d3, d4, d5, d6, Bool.not_true, Bool.not_false, Bool.true_and, Bool.false_and], rfl⟩⟩
  have g6 : ¬ (64 ≤ block) := by simpa using d6
  have k0 := cell_atD HX.out.2.1 0 (v := .int .u64 ver) rfl
  have k1 := cell_atD HX.out.2.1 1 (v := .string D) rfl
  have cmy := HM.out.1 w1
  unfold itemA at cmy
  go_wp2_with fail
  refine Calls.mono cmy ?_
  rintro ev w2 ⟨rfl, hb2⟩
  have HX2 := Lib.hid (And.intro (below_at hb2 (lt_heap HX.out.1) HX.out.1) (And.intro (below_at hb2 (lt_heap HX.out.2.1) HX.out.2.1) (HX.out.2.2.trans (hb2.mono HX.out.2.2.size))))
  clear cmy k0 k1 hb2 HX
  cases mb
  · go_wp2_with fail
    go_ret
    exact ⟨HX2.out.2.2, .inl ⟨by unfold newB; simp only [d1, d2, d3, d4, d5, d6, Bool.not_true, Bool.not_false, Bool.true_and, Bool.false_and], rfl⟩⟩
  have x0 := cell_atD HX2.out.1 0 (v := .int .i64 c.e) rfl
  have x1 := cell_atD HX2.out.1 1 (v := .int .i64 c.b) rfl
  have x2 := cell_atD HX2.out.1 2 (v := .int .i64 c.k) rfl
  have x3 := cell_atD HX2.out.1 3 (v := .slice a1 c.M.length q1) rfl
  have x4 := cell_atD HX2.out.1 4 (v := .slice a2 c.C.length q2) rfl
  rcases d7 : c.e == 0
  case true =>
    go_wp2_with fail
    go_ret
    exact ⟨HX2.out.2.2, .inl ⟨by unfold newB; simp only [d1, d2, d3, d4, d5, d6, d7, Bool.not_true, Bool.not_false, Bool.true_and, Bool.false_and], rfl⟩⟩
  have l2 := CFat.below HC.out HX2.out.2.2
  have cmy := cmayD c a1 a2 q1 q2 w2 l2
  obtain ⟨r, hr⟩ : ∃ r, mayC c = r := ⟨_, rfl⟩
  rw [hr] at cmy
  have HR := Lib.hid hr
  clear hr l2
  go_wp2_with fail
  refine Calls.mono cmy ?_
  rintro ev w3 ⟨rfl, hb3⟩
  have HX3 := Lib.hid (And.intro (below_at hb3 (lt_heap HX2.out.1) HX2.out.1) (And.intro (below_at hb3 (lt_heap HX2.out.2.1) HX2.out.2.1) (HX2.out.2.2.trans (hb3.mono HX2.out.2.2.size))))
  clear cmy hb3 HX2 x0 x1 x2 x3 x4
  cases r
  · go_wp2_with fail
    go_ret
    exact ⟨HX3.out.2.2, .inl ⟨by unfold newB; simp only [d1, d2, d3, d4, d5, d6, d7, HR.out, Bool.not_true, Bool.not_false, Bool.true_and, Bool.false_and], rfl⟩⟩
  have hnb : newB what seq block true c = true := by unfold newB; simp only [d1, d2, d3, d4, d5, d6, d7, HR.out, Bool.not_true, Bool.not_false, Bool.true_and, Bool.false_and]
  have HNB := Lib.hid hnb
  clear hnb d7 HR
  have x0 := cell_atD HX3.out.1 0 (v := .int .i64 c.e) rfl
  have x1 := cell_atD HX3.out.1 1 (v := .int .i64 c.b) rfl
  have x2 := cell_atD HX3.out.1 2 (v := .int .i64 c.k) rfl
  have x3 := cell_atD HX3.out.1 3 (v := .slice a1 c.M.length q1) rfl
  have x4 := cell_atD HX3.out.1 4 (v := .slice a2 c.C.length q2) rfl
  have k0 := cell_atD HX3.out.2.1 0 (v := .int .u64 ver) rfl
  have k1 := cell_atD HX3.out.2.1 1 (v := .string D) rfl
  have l3 := CFat.below HC.out HX3.out.2.2
  have cO := fun w' (h' : Below w3.heap.size w3 w') => (oconf' c _ _ w' (l3.below h') HS.out)
  obtain ⟨N, hN⟩ : ∃ N, w3.heap.size = N := ⟨_, rfl⟩
  have hlt : w.heap.size < N := by have := lt_heap HX3.out.1; omega
  have hlt2 : w.heap.size + 1 < N := by have := lt_heap HX3.out.2.1; omega
  have HN := Lib.hid hN
  rw [hN] at cO
  have cs : ∀ w', N ≤ w'.heap.size ∧ Below N w3 w' → Calls Tryd.prog 26 #[.agg #[.int .i64 c.e, .int .i64 c.b, .int .i64 c.k, .slice a1 c.M.length q1, .slice a2 c.C.length q2]] w' fun ev w'' => ∃ b1 p1 b2 p2, ev = .returned (.agg #[.int .i64 c.e, .int .i64 c.b, .int .i64 c.k, .slice b1 c.M.length p1, .slice b2 c.C.length p2]) ∧ CFO c N w'' (.slice b1 c.M.length p1) (.slice b2 c.C.length p2) ∧ Stays N w' w'' := fun w' h' => (cO w' h'.2).mono fun ev w'' ⟨b1, p1, b2, p2, he, ho, hb⟩ => ⟨b1, p1, b2, p2, he, ho.base h'.1, stays_of h'.1 hb⟩
  clear cO l3 hN
  go_upto_region 3 with fail
  go_region_held3 (fun w' => N ≤ w'.heap.size ∧ Below N w3 w' ∧ ∀ b o, b < N → w'.cell? ⟨b, o, none⟩ = w3.cell? ⟨b, o, none⟩) (first | assumption | exact keeps_start HN.out | (with_reducible exact keeps_alloc (by assumption)) | (with_reducible exact keeps_next (by assumption) (by assumption))) (first | (go_at_call 26; (with_reducible refine Calls.mono (cs _ ?hk) ?_); (case hk => have hq := ‹_ ≤ _ ∧ Below N w3 _ ∧ _›; exact ⟨hq.1, hq.2.1⟩); rintro e wz ⟨b1, p1, b2, p2, rfl, ho, hzz⟩))
  rename_i hfin
  have hx := heap_alloc_self wz (.cells #[.int .i64 c.e, .int .i64 c.b, .int .i64 c.k, .slice b1 c.M.length p1, .slice b2 c.C.length p2, .int .i64 what, .int .i64 seq, .int .i64 block, .int .u64 ver, .string D, .bool sure, .int .i64 0, .bool false, .bool false, .bool false, .bool false, .bool false, .int .i64 0, .bool false] 69)
  have ho2 : CFO c N (wz.alloc (.cells #[.int .i64 c.e, .int .i64 c.b, .int .i64 c.k, .slice b1 c.M.length p1, .slice b2 c.C.length p2, .int .i64 what, .int .i64 seq, .int .i64 block, .int .u64 ver, .string D, .bool sure, .int .i64 0, .bool false, .bool false, .bool false, .bool false, .bool false, .int .i64 0, .bool false] 69)) (.slice b1 c.M.length p1) (.slice b2 c.C.length p2) := ho.below ((Below.refl _ _).alloc (Nat.le_refl _) _)
  have hNX : N ≤ wz.heap.size := hzz.1
  have hbel : Below w.heap.size w (wz.alloc (.cells #[.int .i64 c.e, .int .i64 c.b, .int .i64 c.k, .slice b1 c.M.length p1, .slice b2 c.C.length p2, .int .i64 what, .int .i64 seq, .int .i64 block, .int .u64 ver, .string D, .bool sure, .int .i64 0, .bool false, .bool false, .bool false, .bool false, .bool false, .int .i64 0, .bool false] 69)) := HX3.out.2.2.trans (hfin.2.1.mono (by omega))
  have hs4 : w.heap.size ≤ (wz.alloc (.cells #[.int .i64 c.e, .int .i64 c.b, .int .i64 c.k, .slice b1 c.M.length p1, .slice b2 c.C.length p2, .int .i64 what, .int .i64 seq, .int .i64 block, .int .u64 ver, .string D, .bool sure, .int .i64 0, .bool false, .bool false, .bool false, .bool false, .bool false, .int .i64 0, .bool false] 69)).heap.size := hbel.size
  clear hfin x0 x1 x2 x3 x4 k0 k1 cs ho hzz HX3
  generalize wz.heap.size = X at *
  obtain ⟨w4, hw4⟩ : ∃ w4, wz.alloc (.cells #[.int .i64 c.e, .int .i64 c.b, .int .i64 c.k, .slice b1 c.M.length p1, .slice b2 c.C.length p2, .int .i64 what, .int .i64 seq, .int .i64 block, .int .u64 ver, .string D, .bool sure, .int .i64 0, .bool false, .bool false, .bool false, .bool false, .bool false, .int .i64 0, .bool false] 69) = w4 := ⟨_, rfl⟩
  rw [hw4] at hx ho2 hbel hs4 ⊢
  clear hw4
  have k8 := cell_atD hx 8 (v := .int .u64 ver) rfl
  have k9 := cell_atD hx 9 (v := .string D) rfl
  have fz : ∀ j, w4.frozen? ⟨X, j, none⟩ = false := fun j => by simp [World.frozen?, hx]
  have h8 : (w4.setCell ⟨X, 8, none⟩ (.int .u64 0)).heap[X]? = some (.cells #[.int .i64 c.e, .int .i64 c.b, .int .i64 c.k, .slice b1 c.M.length p1, .slice b2 c.C.length p2, .int .i64 what, .int .i64 seq, .int .i64 block, .int .u64 0, .string D, .bool sure, .int .i64 0, .bool false, .bool false, .bool false, .bool false, .bool false, .int .i64 0, .bool false] 69) := heap_set_self hx 8 _
  have h9 : ((w4.setCell ⟨X, 8, none⟩ (.int .u64 0)).setCell ⟨X, 9, none⟩ (.string ⟨#[]⟩)).heap[X]? = some (.cells #[.int .i64 c.e, .int .i64 c.b, .int .i64 c.k, .slice b1 c.M.length p1, .slice b2 c.C.length p2, .int .i64 what, .int .i64 seq, .int .i64 block, .int .u64 0, .string ⟨#[]⟩, .bool sure, .int .i64 0, .bool false, .bool false, .bool false, .bool false, .bool false, .int .i64 0, .bool false] 69) := heap_set_self h8 9 _
  have ho9 : Only X w4 ((w4.setCell ⟨X, 8, none⟩ (.int .u64 0)).setCell ⟨X, 9, none⟩ (.string ⟨#[]⟩)) := ((Only.refl _ _).set 8 _).set 9 _
  have H9 := Lib.hid (And.intro h9 ho9)
  have H4 := Lib.hid (And.intro hx (And.intro ho2 (And.intro hbel (And.intro hs4 hNX))))
  clear h8 h9 ho9 hx ho2 hbel hs4 hNX
  go_upto_if 61 with fail
  go_cut [] (fun wx => wx.heap[X]? = some (.cells (opA c.e c.b c.k (.slice b1 c.M.length p1) (.slice b2 c.C.length p2) what seq block (if what = 1 then 0 else ver) (if what = 1 then ⟨#[]⟩ else D) sure 0 false false false false false 0 false) 69) ∧ Only X w4 wx)
  case first =>
    rcases t1 : what == 1
    · have n1 : ¬ what = 1 := by simpa using t1
      have HN1 := Lib.hid n1
      clear n1
      go_wp2_with fail
      go_meet
      exact ⟨by rw [if_neg HN1.out, if_neg HN1.out]; exact H4.out.1, Only.refl _ _⟩
    · have n1 : what = 1 := by simpa using t1
      have HN1 := Lib.hid n1
      clear n1
      go_wp2_with fail
      go_meet
      exact ⟨by rw [if_pos HN1.out, if_pos HN1.out]; exact H9.out.1, H9.out.2⟩
  case rest =>
    obtain ⟨h5, ho5⟩ := hcut
    obtain ⟨w5, hw5⟩ : ∃ w5, w5 = wc := ⟨_, rfl⟩
    subst hw5
    have cf := ofirst X what c.M.length b1 p1 w5 (cell_atD h5 3 rfl) (cell_atD h5 5 rfl)
    have hr5 : ∀ w', Only X w5 w' → SR w' (.slice b1 c.M.length p1) 1 c.M.length (nCells c.M) := fun w' h => sr_onlyO H4.out.2.1.1 H4.out.1 (ho5.trans h)
    have cg := obegin (firstB what (decide (0 < c.M.length))) (firstB_four _ _) c.M b1 p1 X w5 c.e c.b c.k (.slice b2 c.C.length p2) what seq block (if what = 1 then 0 else ver) (if what = 1 then ⟨#[]⟩ else D) sure 0 0 false h5 hr5
    have H5 := Lib.hid ho5
    clear h5 ho5 hr5 k8 k9 fz
    obtain ⟨st, hst⟩ : ∃ st, firstB what (decide (0 < c.M.length)) = st := ⟨_, rfl⟩
    rw [hst] at cf cg
    have HST := Lib.hid hst
    clear hst
    go_wp2_with fail
    refine Calls.mono cf ?_
    rintro ev wf ⟨rfl, rfl⟩
    go_wp2_with fail
    refine Calls.mono cg ?_
    rintro ev w6 ⟨rfl, h6, ho6⟩
    have hE : stepN what c = st := HST.out
    have HF := Lib.hid (show w6.heap[X]? = some (.cells (opA c.e c.b c.k (.slice b1 c.M.length p1) (.slice b2 c.C.length p2) what seq block (if what = 1 then 0 else ver) (if what = 1 then ⟨#[]⟩ else D) sure (stepN what c) (waitN what c 0) (waitN what c 1) (waitN what c 2) (waitN what c 3) (waitN what c 4) 0 false) 69) ∧ Below w.heap.size w w6 from ⟨by unfold waitN; rw [hE]; exact h6, H4.out.2.2.1.trans ((H5.out.trans ho6).below (by have := H4.out.2.2.2.2; omega) H4.out.2.2.2.1)⟩)
    clear h6 ho6 hE cf cg
    go_wp2_with fail
    go_ret
    exact ⟨HF.out.2, .inr ⟨HNB.out, X, b1, p1, b2, p2, rfl, by have := H4.out.2.2.2.2; omega, HF.out.1⟩⟩
end Go.Proofs.YtkdmnhmlkcejfaaDoor
