/-
  trace.act: the act that bytes tell. Written by gentrd.py.
-/
import Derived.Test.YtkdmnhmlkcejfaaDoorTrC
namespace Go.Proofs.YtkdmnhmlkcejfaaDoor
open Go.RowKit
set_option linter.unusedVariables false
set_option linter.unusedSimpArgs false

/-- no act -/
def zT : TA := ⟨0, 0, 0, 0, 0, 0, 0, [], false, [], [], []⟩
def zC : Array Value := actC zT (.slice none 0 0) (.slice none 0 0)
/-- the act that is told -/
def outT (b : List UInt8) : TA := if actE b = 0 then actT b else zT
theorem set12 {w : World} {X : Nat} {t : TypeId} (o0 o1 o2 o3 o4 o5 o6 o7 o8 o9 o10 o11 n0 n1 n2 n3 n4 n5 n6 n7 n8 n9 n10 n11 : Value) (h : w.heap[X]? = some (.cells #[o0, o1, o2, o3, o4, o5, o6, o7, o8, o9, o10, o11] t)) :
    ((((((((((((w.setCell ⟨X, 0, none⟩ n0).setCell ⟨X, 1, none⟩ n1).setCell ⟨X, 2, none⟩ n2).setCell ⟨X, 3, none⟩ n3).setCell ⟨X, 4, none⟩ n4).setCell ⟨X, 5, none⟩ n5).setCell ⟨X, 6, none⟩ n6).setCell ⟨X, 7, none⟩ n7).setCell ⟨X, 8, none⟩ n8).setCell ⟨X, 9, none⟩ n9).setCell ⟨X, 10, none⟩ n10).setCell ⟨X, 11, none⟩ n11).heap[X]? = some (.cells #[n0, n1, n2, n3, n4, n5, n6, n7, n8, n9, n10, n11] t) ∧ Only X w ((((((((((((w.setCell ⟨X, 0, none⟩ n0).setCell ⟨X, 1, none⟩ n1).setCell ⟨X, 2, none⟩ n2).setCell ⟨X, 3, none⟩ n3).setCell ⟨X, 4, none⟩ n4).setCell ⟨X, 5, none⟩ n5).setCell ⟨X, 6, none⟩ n6).setCell ⟨X, 7, none⟩ n7).setCell ⟨X, 8, none⟩ n8).setCell ⟨X, 9, none⟩ n9).setCell ⟨X, 10, none⟩ n10).setCell ⟨X, 11, none⟩ n11) := by
  have g0 : (w.setCell ⟨X, 0, none⟩ n0).heap[X]? = some (.cells #[n0, o1, o2, o3, o4, o5, o6, o7, o8, o9, o10, o11] t) := heap_set_self h 0 _
  have g1 : ((w.setCell ⟨X, 0, none⟩ n0).setCell ⟨X, 1, none⟩ n1).heap[X]? = some (.cells #[n0, n1, o2, o3, o4, o5, o6, o7, o8, o9, o10, o11] t) := heap_set_self g0 1 _
  have g2 : (((w.setCell ⟨X, 0, none⟩ n0).setCell ⟨X, 1, none⟩ n1).setCell ⟨X, 2, none⟩ n2).heap[X]? = some (.cells #[n0, n1, n2, o3, o4, o5, o6, o7, o8, o9, o10, o11] t) := heap_set_self g1 2 _
  have g3 : ((((w.setCell ⟨X, 0, none⟩ n0).setCell ⟨X, 1, none⟩ n1).setCell ⟨X, 2, none⟩ n2).setCell ⟨X, 3, none⟩ n3).heap[X]? = some (.cells #[n0, n1, n2, n3, o4, o5, o6, o7, o8, o9, o10, o11] t) := heap_set_self g2 3 _
  have g4 : (((((w.setCell ⟨X, 0, none⟩ n0).setCell ⟨X, 1, none⟩ n1).setCell ⟨X, 2, none⟩ n2).setCell ⟨X, 3, none⟩ n3).setCell ⟨X, 4, none⟩ n4).heap[X]? = some (.cells #[n0, n1, n2, n3, n4, o5, o6, o7, o8, o9, o10, o11] t) := heap_set_self g3 4 _
  have g5 : ((((((w.setCell ⟨X, 0, none⟩ n0).setCell ⟨X, 1, none⟩ n1).setCell ⟨X, 2, none⟩ n2).setCell ⟨X, 3, none⟩ n3).setCell ⟨X, 4, none⟩ n4).setCell ⟨X, 5, none⟩ n5).heap[X]? = some (.cells #[n0, n1, n2, n3, n4, n5, o6, o7, o8, o9, o10, o11] t) := heap_set_self g4 5 _
  have g6 : (((((((w.setCell ⟨X, 0, none⟩ n0).setCell ⟨X, 1, none⟩ n1).setCell ⟨X, 2, none⟩ n2).setCell ⟨X, 3, none⟩ n3).setCell ⟨X, 4, none⟩ n4).setCell ⟨X, 5, none⟩ n5).setCell ⟨X, 6, none⟩ n6).heap[X]? = some (.cells #[n0, n1, n2, n3, n4, n5, n6, o7, o8, o9, o10, o11] t) := heap_set_self g5 6 _
  have g7 : ((((((((w.setCell ⟨X, 0, none⟩ n0).setCell ⟨X, 1, none⟩ n1).setCell ⟨X, 2, none⟩ n2).setCell ⟨X, 3, none⟩ n3).setCell ⟨X, 4, none⟩ n4).setCell ⟨X, 5, none⟩ n5).setCell ⟨X, 6, none⟩ n6).setCell ⟨X, 7, none⟩ n7).heap[X]? = some (.cells #[n0, n1, n2, n3, n4, n5, n6, n7, o8, o9, o10, o11] t) := heap_set_self g6 7 _
  have g8 : (((((((((w.setCell ⟨X, 0, none⟩ n0).setCell ⟨X, 1, none⟩ n1).setCell ⟨X, 2, none⟩ n2).setCell ⟨X, 3, none⟩ n3).setCell ⟨X, 4, none⟩ n4).setCell ⟨X, 5, none⟩ n5).setCell ⟨X, 6, none⟩ n6).setCell ⟨X, 7, none⟩ n7).setCell ⟨X, 8, none⟩ n8).heap[X]? = some (.cells #[n0, n1, n2, n3, n4, n5, n6, n7, n8, o9, o10, o11] t) := heap_set_self g7 8 _
  have g9 : ((((((((((w.setCell ⟨X, 0, none⟩ n0).setCell ⟨X, 1, none⟩ n1).setCell ⟨X, 2, none⟩ n2).setCell ⟨X, 3, none⟩ n3).setCell ⟨X, 4, none⟩ n4).setCell ⟨X, 5, none⟩ n5).setCell ⟨X, 6, none⟩ n6).setCell ⟨X, 7, none⟩ n7).setCell ⟨X, 8, none⟩ n8).setCell ⟨X, 9, none⟩ n9).heap[X]? = some (.cells #[n0, n1, n2, n3, n4, n5, n6, n7, n8, n9, o10, o11] t) := heap_set_self g8 9 _
  have g10 : (((((((((((w.setCell ⟨X, 0, none⟩ n0).setCell ⟨X, 1, none⟩ n1).setCell ⟨X, 2, none⟩ n2).setCell ⟨X, 3, none⟩ n3).setCell ⟨X, 4, none⟩ n4).setCell ⟨X, 5, none⟩ n5).setCell ⟨X, 6, none⟩ n6).setCell ⟨X, 7, none⟩ n7).setCell ⟨X, 8, none⟩ n8).setCell ⟨X, 9, none⟩ n9).setCell ⟨X, 10, none⟩ n10).heap[X]? = some (.cells #[n0, n1, n2, n3, n4, n5, n6, n7, n8, n9, n10, o11] t) := heap_set_self g9 10 _
  have g11 : ((((((((((((w.setCell ⟨X, 0, none⟩ n0).setCell ⟨X, 1, none⟩ n1).setCell ⟨X, 2, none⟩ n2).setCell ⟨X, 3, none⟩ n3).setCell ⟨X, 4, none⟩ n4).setCell ⟨X, 5, none⟩ n5).setCell ⟨X, 6, none⟩ n6).setCell ⟨X, 7, none⟩ n7).setCell ⟨X, 8, none⟩ n8).setCell ⟨X, 9, none⟩ n9).setCell ⟨X, 10, none⟩ n10).setCell ⟨X, 11, none⟩ n11).heap[X]? = some (.cells #[n0, n1, n2, n3, n4, n5, n6, n7, n8, n9, n10, n11] t) := heap_set_self g10 11 _
  exact ⟨g11, ((((((((((((Only.refl X w).set 0 _).set 1 _).set 2 _).set 3 _).set 4 _).set 5 _).set 6 _).set 7 _).set 8 _).set 9 _).set 10 _).set 11 _⟩

theorem two_newT (w : World) (o p : Obj) : ((w.alloc o).alloc p).heap[w.heap.size]? = some o ∧ ((w.alloc o).alloc p).heap[w.heap.size + 1]? = some p ∧ Below w.heap.size w ((w.alloc o).alloc p) ∧ ((w.alloc o).alloc p).heap.size = w.heap.size + 2 := by
  refine ⟨?_, ?_, ((Below.refl _ _).alloc (Nat.le_refl _) _).alloc (by simp) _, by simp⟩
  · have h := heap_alloc_self w o
    exact below_at ((Below.refl _ _).alloc (Nat.le_refl _) _) (lt_heap h) h
  · have h := heap_alloc_self (w.alloc o) p
    simpa using h
/-- seven places, copied over by at most seven numbers -/
theorem copy_seven {P : Program} (w : World) (X : Nat) (tt ty elem t : TypeId) (a : Option Addr) (n cap : Nat) (L : List Int) (hu : P.underlying tt = some (.slice elem)) (hs : (P.info? elem).map (·.size) = some 1)
    (hx : w.heap[X]? = some (.cells #[.int .i64 0, .int .i64 0, .int .i64 0, .int .i64 0, .int .i64 0, .int .i64 0, .int .i64 0] t)) (hL : L.length = n) (hn : n ≤ 7) (h : SR w (.slice a n cap) 1 n (nCells L)) :
    ∃ w', (Builtin.copy_ #[tt, tt] ty #[.slice (some ⟨X, 0, none⟩) 7 7, .slice a n cap]).run P w = .ok (.int .i64 n) w' ∧ Only X w w' ∧ w'.heap[X]? = some (.cells #[.int .i64 (L.getD 0 0), .int .i64 (L.getD 1 0), .int .i64 (L.getD 2 0), .int .i64 (L.getD 3 0), .int .i64 (L.getD 4 0), .int .i64 (L.getD 5 0), .int .i64 (L.getD 6 0)] t) := by
  obtain ⟨a', cap', e, h1, h2, h3, h4⟩ := h
  injection e with e1 e2 e3
  subst e1 e3
  rcases h4 with h4 | ⟨g, off, rfl, hg, hc⟩
  · subst h4
    have : L = [] := List.eq_nil_of_length_eq_zero hL
    subst this
    refine ⟨w, ?_, Only.refl _ _, hx⟩
    exact run_copy_none (P := P) w tt tt ty elem (some ⟨X, 0, none⟩) a 7 7 0 cap hu hs (by decide)
  · have hm : Nat.min n 7 = n := Nat.min_eq_left hn
    have hl : (nCells L).length = n := by rw [h3, Nat.mul_one]
    have hrun := run_copy_row (P := P) w tt tt ty elem X 0 7 7 ⟨g, off, none⟩ n cap #[.int .i64 0, .int .i64 0, .int .i64 0, .int .i64 0, .int .i64 0, .int .i64 0, .int .i64 0] t (nCells L) hu hs hx (by rw [hm]; exact hl) (fun j v hj => by
        have hadd : (⟨g, off, none⟩ : Addr).add j = ⟨g, off + j, none⟩ := by unfold Addr.add; split <;> simp_all
        rw [hadd]; exact hc j v hj) (by simp; omega) (fun v hv => by
        simp only [nCells, List.mem_map] at hv
        obtain ⟨x, -, rfl⟩ := hv
        rfl)
    rw [hl] at hrun
    refine ⟨_, hrun, (Only.refl X w).trans ⟨rfl, rfl, rfl, by simp [World.setRow], fun k hk hne => setRow_other w X k _ (by omega)⟩, ?_⟩
    subst hL
    match L, hn with
    | [], _ | [_], _ | [_, _], _ | [_, _, _], _ | [_, _, _, _], _ | [_, _, _, _, _], _ | [_, _, _, _, _, _], _ | [_, _, _, _, _, _, _], _ => exact setRow_heap w X _ _ t _ hx
/-- an act on its way: the source, the result's block, the act's -/
structure TS (w wk : World) (b A : Nat) (r : RS) (cs : Array Value) : Prop where
  src : Src wk b r
  res : wk.heap[w.heap.size]? = some (.cells zC 54)
  act : wk.heap[A]? = some (.cells cs 54)
  below : Below w.heap.size w wk
theorem TS.take {w wk w2 : World} {b A : Nat} {r r' : RS} {cs : Array Value} (h : TS w wk b A r cs) (hs : Src w2 b r') (ho : Only b wk w2) (hb : w.heap.size < b) (hA : A ≠ b) : TS w w2 b A r' cs :=
  ⟨hs, (ho.block _ (lt_heap h.res) (by omega)).trans h.res, (ho.block _ (lt_heap h.act) hA).trans h.act, h.below.trans (ho.below (by omega) (Nat.le_of_lt (lt_heap h.res)))⟩
theorem TS.set {w wk : World} {b A : Nat} {r : RS} {cs : Array Value} (h : TS w wk b A r cs) (hb : b ≠ A) (hA : w.heap.size < A) (j : Nat) (v : Value) : TS w (wk.setCell ⟨A, j, none⟩ v) b A r (cs.setIfInBounds j v) :=
  ⟨((Only.refl A wk).set j v).block b h.src.lt hb |>.trans h.src, (((Only.refl A wk).set j v).block _ (lt_heap h.res) (by omega)).trans h.res, heap_set_self h.act j v, h.below.setCell (p := ⟨A, j, none⟩) (by show w.heap.size ≤ A; omega) _⟩
theorem TS.same {w wk w2 : World} {b A : Nat} {r : RS} {cs : Array Value} (h : TS w wk b A r cs) (hb : Below wk.heap.size wk w2) : TS w w2 b A r cs :=
  ⟨h.src.below hb, below_at hb (lt_heap h.res) h.res, below_at hb (lt_heap h.act) h.act, h.below.trans (hb.mono (Nat.le_of_lt (lt_heap h.res)))⟩
theorem tb_le (r : RS) : (r.textB 8192).length ≤ 8192 := by
  unfold RS.textB
  have h1 := takeB_len (r.numS (min (8192 : Int) 65536).toNat) (r.numV (min (8192 : Int) 65536).toNat)
  have h2 := numV_le r (min (8192 : Int) 65536).toNat
  have e : (min (8192 : Int) 65536).toNat = 8192 := rfl
  rw [e] at h1 h2 ⊢
  omega
theorem lv_le (r : RS) : (r.listV 3 4).length ≤ 9223372036854775807 := by
  rw [RS.listV]
  split
  · simp
  · refine Nat.le_trans (intsR_len _ _ _) ?_
    have := numV_le r (3 : Int).toNat
    have e : (3 : Int).toNat = 3 := rfl
    rw [e] at this ⊢
    omega
/-- an act's lists lie in rows of their own -/
structure RW (w : World) (base : Nat) (t : TA) (vm vc : Value) : Prop where
  m : w.ownsRow base 3 1 vm t.M.length (iCells t.M)
  c : w.ownsRow base 3 1 vc t.C.length (iCells t.C)
theorem RW.kept {w w' : World} {base x : Nat} {t : TA} {vm vc : Value} (h : RW w base t vm vc) (ho : Only x w w') (hx : x < base) : RW w' base t vm vc := ⟨owns_kept h.m ho hx, owns_kept h.c ho hx⟩
theorem RW.below {w w' : World} {base : Nat} {t : TA} {vm vc : Value} (h : RW w base t vm vc) (hb : Below w.heap.size w w') : RW w' base t vm vc := ⟨owns_below h.m hb, owns_below h.c hb⟩
theorem RW.actAt {w : World} {base : Nat} {t : TA} {vm vc : Value} (h : RW w base t vm vc) (hm : t.M.length ≤ 9223372036854775807) (hc : t.C.length ≤ 9223372036854775807) : ActAt t w vm vc := ⟨Ints.owned h.m hm, Ints.owned h.c hc⟩
theorem zT_at (w : World) : ActAt zT w (.slice none 0 0) (.slice none 0 0) := ⟨⟨none, 0, rfl, by decide, .inl rfl⟩, ⟨none, 0, rfl, by decide, .inl rfl⟩⟩
theorem owns_raise {w : World} {base base' n size : Nat} {e : TypeId} {v : Value} {xs : List Value} (h : w.ownsRow base e size v n xs) (hb : base' ≤ base) : w.ownsRow base' e size v n xs := by
  refine ⟨h.1, ?_⟩
  rcases h.2 with q | ⟨g, cap, cur, rfl, hg, hc, r⟩
  · exact .inl q
  · exact .inr ⟨g, cap, cur, rfl, Nat.le_trans hb hg, hc, r⟩
theorem RW.raise {w : World} {base base' : Nat} {t : TA} {vm vc : Value} (h : RW w base t vm vc) (hb : base' ≤ base) : RW w base' t vm vc := ⟨owns_raise h.m hb, owns_raise h.c hb⟩
theorem zT_rw (w : World) (base : Nat) : RW w base zT (.slice none 0 0) (.slice none 0 0) := ⟨World.ownsRow_nil _ _ _ _, World.ownsRow_nil _ _ _ _⟩
theorem outT_le (b : List UInt8) : NodesL (outT b).M ∧ NodesL (outT b).C := by
  unfold outT
  by_cases h : actE b = 0
  · rw [if_pos h]
    have := (act_canon h).1
    exact ⟨this.2.1, this.2.2.1⟩
  · rw [if_neg h]
    exact ⟨⟨by decide, by simp [zT]⟩, ⟨by decide, by simp [zT]⟩⟩
set_option maxHeartbeats 6400000 in
set_option maxRecDepth 100000 in
theorem tact (s : List UInt8) (w : World) :
    Calls Tryd.prog 43 #[.string ⟨s.toArray⟩] w fun e w' => (∃ vm vc, e = .returned (.tuple #[.agg (actC (outT s) vm vc), .int .i64 (actE s)]) ∧ RW w' w.heap.size (outT s) vm vc) ∧ Below w.heap.size w w' := by
  go_enter Tryd.func43, Tryd.ntmps43
  go_wp2_with fail
  have cf := from_any ⟨s.toArray⟩ (w.alloc (.cells zC 54))
  refine Calls.mono cf ?_
  rintro e w1 ⟨rfl, rfl⟩
  obtain ⟨y0, y1, yb, yz⟩ := two_newT w (.cells zC 54) (.cells #[.string ⟨s.toArray⟩, .int .i64 0] 123)
  generalize (w.alloc (.cells zC 54)).alloc (.cells #[.string ⟨s.toArray⟩, .int .i64 0] 123) = w1 at *
  rw [World.size_alloc]
  obtain ⟨b, hbb⟩ : ∃ b, w.heap.size + 1 = b := ⟨_, rfl⟩
  rw [hbb] at y1 ⊢
  have H1 := Lib.hid (And.intro y0 (And.intro (show Src w1 b ⟨s, 0⟩ from y1) (And.intro yb (And.intro yz hbb))))
  clear y0 y1 yb yz cf
  go_upto_region 3 with fail
  have hz := heap_alloc_self w1 (.cells #[.int .i64 0, .int .i64 0, .int .i64 0, .int .i64 0, .int .i64 0, .int .i64 0, .int .i64 0] 104)
  have hb1 := (Below.refl w1.heap.size w1).alloc (Nat.le_refl _) (.cells #[.int .i64 0, .int .i64 0, .int .i64 0, .int .i64 0, .int .i64 0, .int .i64 0, .int .i64 0] 104)
  obtain ⟨w2, hw2⟩ : ∃ w2, w1.alloc (.cells #[.int .i64 0, .int .i64 0, .int .i64 0, .int .i64 0, .int .i64 0, .int .i64 0, .int .i64 0] 104) = w2 := ⟨_, rfl⟩
  rw [hw2] at hz hb1
  try rw [hw2]
  clear hw2
  obtain ⟨hh, hhh⟩ : ∃ hh, w1.heap.size = hh := ⟨_, rfl⟩
  rw [hhh] at hz hb1
  try rw [hhh]
  obtain ⟨L, hL⟩ : ∃ L, (⟨s, 0⟩ : RS).listV 7 1073741824 = L := ⟨_, rfl⟩
  have hL7 : L.length ≤ 7 := by
    rw [← hL, RS.listV]
    split
    · simp
    · refine Nat.le_trans (intsR_len _ _ _) ?_
      have := numV_le (⟨s, 0⟩ : RS) (7 : Int).toNat
      have e : (7 : Int).toNat = 7 := rfl
      rw [e] at this ⊢
      omega
  have hbh : b + 1 = hh := by have := H1.out.2.2.2.1; have := H1.out.2.2.2.2; omega
  have hs2 : Src w2 b ⟨s, 0⟩ := below_at hb1 (by omega) H1.out.2.1
  have hr2 := below_at hb1 (by have := H1.out.2.2.2.2; omega) H1.out.1
  have hbl2 : Below w.heap.size w w2 := H1.out.2.2.1.trans (hb1.mono (by have := H1.out.2.2.2.2; omega))
  have hbb2 := H1.out.2.2.2.2
  have ci : Calls Tryd.prog 72 #[.pointer (some ⟨b, 0, none⟩), .int .i64 7, .int .i64 1073741824] w2.drew (ListPost b ⟨s, 0⟩ 7 1073741824 w2.drew) := slist_src b ⟨s, 0⟩ 7 1073741824 w2.drew (by decide) (by decide) hs2
  unfold ListPost at ci
  rw [hL] at ci
  have HL := Lib.hid hL
  have H2 := Lib.hid (And.intro hz (And.intro hr2 hbl2))
  clear H1 hL hz hb1 hr2 hbl2 hhh hs2
  go_region_held3 (fun _ => True) (exact trivial) (first | (go_at_call 72; refine Calls.mono ci ?_; rintro ev w6 ⟨v8, rfl, o8, s6, t6⟩; obtain ⟨a8, p8, hv8, -, -⟩ := (SR.owns o8).form; subst hv8; obtain ⟨w8, hcp, ho8, h8⟩ := copy_seven (P := Tryd.prog) w6 hh 22 3 3 104 a8 L.length p8 L Tryd.underlying22 (by kernel_rfl) ((t6.block _ (lt_heap H2.out.1) (by omega)).trans H2.out.1) rfl hL7 (SR.owns o8)))
  have H8 := Lib.hid (show Src w8 b (act1 s) ∧ w8.heap[w.heap.size]? = some (.cells zC 54) ∧ w8.heap[hh]? = some (.cells #[.int .i64 (L.getD 0 0), .int .i64 (L.getD 1 0), .int .i64 (L.getD 2 0), .int .i64 (L.getD 3 0), .int .i64 (L.getD 4 0), .int .i64 (L.getD 5 0), .int .i64 (L.getD 6 0)] 104) ∧ Below w.heap.size w w8 from
    ⟨(ho8.block b (lt_heap s6) (by omega)).trans s6, (ho8.block _ (Nat.lt_of_lt_of_le (lt_heap H2.out.2.1) t6.size) (by omega)).trans ((t6.block _ (lt_heap H2.out.2.1) (by omega)).trans H2.out.2.1), h8,
     (H2.out.2.2.trans (below_of_drew (t6.below (by omega) (Nat.le_of_lt (lt_heap H2.out.2.1))))).trans (ho8.below (by omega) (Nat.le_trans (Nat.le_of_lt (lt_heap H2.out.2.1)) t6.size))⟩)
  clear ci s6 t6 o8 hcp ho8 h8 H2
  obtain ⟨tb, htb⟩ : ∃ tb, ((L.length : Int) != 7) = tb := ⟨_, rfl⟩
  have HTB := Lib.hid htb
  try rw [htb]
  clear htb
  have cw := wrong_src b (act1 s) 3 w8 H8.out.1
  go_upto_if 13 with fail
  go_cut [] (fun wx => Src wx b (act2 s) ∧ wx.heap[w.heap.size]? = some (.cells zC 54) ∧ wx.heap[hh]? = some (.cells #[.int .i64 (L.getD 0 0), .int .i64 (L.getD 1 0), .int .i64 (L.getD 2 0), .int .i64 (L.getD 3 0), .int .i64 (L.getD 4 0), .int .i64 (L.getD 5 0), .int .i64 (L.getD 6 0)] 104) ∧ Below w.heap.size w wx)
  case first =>
    cases tb
    · have hl7 : (actL s).length = 7 := by
        have := HTB.out
        rw [show actL s = L from HL.out]
        simp at this
        omega
      have h2 : act2 s = act1 s := by unfold act2; rw [if_pos hl7]
      have HF := Lib.hid H8.out
      rw [← h2] at HF
      clear hl7 h2 cw
      go_wp2_with fail
      go_meet
      exact HF.out
    · have hl7 : ¬ (actL s).length = 7 := by
        have := HTB.out
        rw [show actL s = L from HL.out]
        simp at this
        omega
      have h2 : (act1 s).fail 3 = act2 s := by unfold act2; rw [if_neg hl7]
      rw [h2] at cw
      clear hl7 h2
      go_wp2_with fail
      refine Calls.mono cw ?_
      rintro ev w9 ⟨rfl, s9, t9⟩
      have HF := Lib.hid (And.intro s9 (And.intro ((t9.block _ (lt_heap H8.out.2.1) (by omega)).trans H8.out.2.1) (And.intro ((t9.block _ (lt_heap H8.out.2.2.1) (by omega)).trans H8.out.2.2.1) (H8.out.2.2.2.trans (t9.below (by omega) (Nat.le_of_lt (lt_heap H8.out.2.1)))))))
      clear s9 t9 cw
      go_wp2_with fail
      go_meet
      exact HF.out
  case rest =>
    obtain ⟨w9, hw9⟩ : ∃ w9, w9 = wc := ⟨_, rfl⟩
    subst hw9
    have H9 := Lib.hid hcut
    clear hcut H8 cw HTB
    obtain ⟨g0, hg0⟩ : ∃ g, L.getD 0 0 = g := ⟨_, rfl⟩
    obtain ⟨g1, hg1⟩ : ∃ g, L.getD 1 0 = g := ⟨_, rfl⟩
    obtain ⟨g2, hg2⟩ : ∃ g, L.getD 2 0 = g := ⟨_, rfl⟩
    obtain ⟨g3, hg3⟩ : ∃ g, L.getD 3 0 = g := ⟨_, rfl⟩
    obtain ⟨g4, hg4⟩ : ∃ g, L.getD 4 0 = g := ⟨_, rfl⟩
    obtain ⟨g5, hg5⟩ : ∃ g, L.getD 5 0 = g := ⟨_, rfl⟩
    obtain ⟨g6, hg6⟩ : ∃ g, L.getD 6 0 = g := ⟨_, rfl⟩
    rw [hg0, hg1, hg2, hg3, hg4, hg5, hg6] at H9
    have HG := Lib.hid (And.intro hg0 (And.intro hg1 (And.intro hg2 (And.intro hg3 (And.intro hg4 (And.intro hg5 hg6))))))
    clear hg0 hg1 hg2 hg3 hg4 hg5 hg6
    have x0 := cell_at H9.out.2.2.1 0 (v := .int .i64 g0) rfl
    have x1 := cell_at H9.out.2.2.1 1 (v := .int .i64 g1) rfl
    have x2 := cell_at H9.out.2.2.1 2 (v := .int .i64 g2) rfl
    have x3 := cell_at H9.out.2.2.1 3 (v := .int .i64 g3) rfl
    have x4 := cell_at H9.out.2.2.1 4 (v := .int .i64 g4) rfl
    have x5 := cell_at H9.out.2.2.1 5 (v := .int .i64 g5) rfl
    have x6 := cell_at H9.out.2.2.1 6 (v := .int .i64 g6) rfl
    go_upto_region 6 with fail
    clear x0 x1 x2 x3 x4 x5 x6
    have hbA : Below w9.heap.size w9 (w9.alloc (.cells #[.int .i64 g0, .int .i64 g1, .int .i64 g2, .int .i64 g3, .int .i64 g4, .int .i64 g5, .int .i64 g6, .string ⟨#[]⟩, .bool false, .slice none 0 0, .slice none 0 0, .string ⟨#[]⟩] 54)) := (Below.refl _ _).alloc (Nat.le_refl _) _
    have hsA : Src (w9.alloc (.cells #[.int .i64 g0, .int .i64 g1, .int .i64 g2, .int .i64 g3, .int .i64 g4, .int .i64 g5, .int .i64 g6, .string ⟨#[]⟩, .bool false, .slice none 0 0, .slice none 0 0, .string ⟨#[]⟩] 54)) b (act2 s) := H9.out.1.below hbA
    have T0 := Lib.hid (show TS w (w9.alloc (.cells #[.int .i64 g0, .int .i64 g1, .int .i64 g2, .int .i64 g3, .int .i64 g4, .int .i64 g5, .int .i64 g6, .string ⟨#[]⟩, .bool false, .slice none 0 0, .slice none 0 0, .string ⟨#[]⟩] 54)) b w9.heap.size (act2 s) #[.int .i64 g0, .int .i64 g1, .int .i64 g2, .int .i64 g3, .int .i64 g4, .int .i64 g5, .int .i64 g6, .string ⟨#[]⟩, .bool false, .slice none 0 0, .slice none 0 0, .string ⟨#[]⟩] from ⟨hsA, below_at hbA (lt_heap H9.out.2.1) H9.out.2.1, heap_alloc_self w9 _, H9.out.2.2.2.trans (hbA.mono (Nat.le_of_lt (lt_heap H9.out.2.1)))⟩)
    have hA1 : b < w9.heap.size := lt_heap H9.out.1
    generalize w9.alloc (.cells #[.int .i64 g0, .int .i64 g1, .int .i64 g2, .int .i64 g3, .int .i64 g4, .int .i64 g5, .int .i64 g6, .string ⟨#[]⟩, .bool false, .slice none 0 0, .slice none 0 0, .string ⟨#[]⟩] 54) = wA at *
    obtain ⟨A, hA⟩ : ∃ A, w9.heap.size = A := ⟨_, rfl⟩
    rw [hA] at T0 hA1
    try rw [hA]
    have hA2 : w.heap.size < A := by omega
    clear hA hbA hsA H9
    go_wp2_with fail
    refine Calls.mono (sbool_src b (act2 s) wA T0.out.src) ?_
    rintro ev wB ⟨rfl, sx, tx⟩
    have T1x := Lib.hid (T0.out.take (r' := act3 s) sx tx (by omega) (by omega))
    clear sx tx
    have fz : wB.frozen? ⟨A, 8, none⟩ = false := by have := T1x.out.act; simp [World.frozen?, this]
    have xz := cell_at T1x.out.act 8 (v := .bool false) rfl
    have T1 := Lib.hid (show TS w (wB.setCell ⟨A, 8, none⟩ (.bool (act2 s).boolV)) b A (act3 s) #[.int .i64 g0, .int .i64 g1, .int .i64 g2, .int .i64 g3, .int .i64 g4, .int .i64 g5, .int .i64 g6, .string ⟨#[]⟩, .bool (act2 s).boolV, .slice none 0 0, .slice none 0 0, .string ⟨#[]⟩] from T1x.out.set (by omega) hA2 8 _)
    go_upto_region 7 with fail
    clear fz xz
    generalize wB.setCell ⟨A, 8, none⟩ (.bool (act2 s).boolV) = wC at *
    go_wp2_with fail
    refine Calls.mono (text_src b (act3 s) 8192 wC T1.out.src) ?_
    rintro ev wD ⟨rfl, sx, tx⟩
    have T2x := Lib.hid (T1.out.take (r' := act4 s) sx tx (by omega) (by omega))
    clear sx tx
    have fz : wD.frozen? ⟨A, 7, none⟩ = false := by have := T2x.out.act; simp [World.frozen?, this]
    have xz := cell_at T2x.out.act 7 (v := .string ⟨#[]⟩) rfl
    have T2 := Lib.hid (show TS w (wD.setCell ⟨A, 7, none⟩ (.string ⟨((act3 s).textB 8192).toArray⟩)) b A (act4 s) #[.int .i64 g0, .int .i64 g1, .int .i64 g2, .int .i64 g3, .int .i64 g4, .int .i64 g5, .int .i64 g6, .string ⟨((act3 s).textB 8192).toArray⟩, .bool (act2 s).boolV, .slice none 0 0, .slice none 0 0, .string ⟨#[]⟩] from T2x.out.set (by omega) hA2 7 _)
    go_upto_region 8 with fail
    clear fz xz
    generalize wD.setCell ⟨A, 7, none⟩ (.string ⟨((act3 s).textB 8192).toArray⟩) = wE at *
    go_wp2_with fail
    refine Calls.mono (slist_src b (act4 s) 3 4 wE (by decide) (by decide) T2.out.src) ?_
    rintro ev wF ⟨vM, rfl, oM, sx, tx⟩
    obtain ⟨aM, pM, hvM, -, -⟩ := (SR.owns oM).form
    subst hvM
    have T3x := Lib.hid (T2.out.take (r' := act5 s) sx tx (by omega) (by omega))
    clear sx tx
    have fz : wF.frozen? ⟨A, 9, none⟩ = false := by have := T3x.out.act; simp [World.frozen?, this]
    have xz := cell_at T3x.out.act 9 (v := .slice none 0 0) rfl
    have T3 := Lib.hid (show TS w (wF.setCell ⟨A, 9, none⟩ (.slice aM ((act4 s).listV 3 4).length pM)) b A (act5 s) #[.int .i64 g0, .int .i64 g1, .int .i64 g2, .int .i64 g3, .int .i64 g4, .int .i64 g5, .int .i64 g6, .string ⟨((act3 s).textB 8192).toArray⟩, .bool (act2 s).boolV, .slice aM ((act4 s).listV 3 4).length pM, .slice none 0 0, .string ⟨#[]⟩] from T3x.out.set (by omega) hA2 9 _)
    have OM4 := Lib.hid (owns_kept (base := A + 1) (owns_raise oM (Nat.succ_le_of_lt (lt_heap T2.out.act))) ((Only.refl A wF).set 9 (.slice aM ((act4 s).listV 3 4).length pM)) (by omega))
    go_upto_region 9 with fail
    clear fz xz
    generalize wF.setCell ⟨A, 9, none⟩ (.slice aM ((act4 s).listV 3 4).length pM) = wG at *
    go_wp2_with fail
    refine Calls.mono (slist_src b (act5 s) 3 4 wG (by decide) (by decide) T3.out.src) ?_
    rintro ev wH ⟨vC, rfl, oC, sx, tx⟩
    obtain ⟨aC, pC, hvC, -, -⟩ := (SR.owns oC).form
    subst hvC
    have T4x := Lib.hid (T3.out.take (r' := act6 s) sx tx (by omega) (by omega))
    have OM5 := Lib.hid (owns_kept OM4.out tx (by omega))
    clear sx tx
    have fz : wH.frozen? ⟨A, 10, none⟩ = false := by have := T4x.out.act; simp [World.frozen?, this]
    have xz := cell_at T4x.out.act 10 (v := .slice none 0 0) rfl
    have T4 := Lib.hid (show TS w (wH.setCell ⟨A, 10, none⟩ (.slice aC ((act5 s).listV 3 4).length pC)) b A (act6 s) #[.int .i64 g0, .int .i64 g1, .int .i64 g2, .int .i64 g3, .int .i64 g4, .int .i64 g5, .int .i64 g6, .string ⟨((act3 s).textB 8192).toArray⟩, .bool (act2 s).boolV, .slice aM ((act4 s).listV 3 4).length pM, .slice aC ((act5 s).listV 3 4).length pC, .string ⟨#[]⟩] from T4x.out.set (by omega) hA2 10 _)
    have OM6 := Lib.hid (owns_kept OM5.out ((Only.refl A wH).set 10 (.slice aC ((act5 s).listV 3 4).length pC)) (by omega))
    have OC6 := Lib.hid (owns_kept (base := A + 1) (owns_raise oC (Nat.succ_le_of_lt (lt_heap T3.out.act))) ((Only.refl A wH).set 10 (.slice aC ((act5 s).listV 3 4).length pC)) (by omega))
    go_upto_region 10 with fail
    clear fz xz
    generalize wH.setCell ⟨A, 10, none⟩ (.slice aC ((act5 s).listV 3 4).length pC) = wI at *
    go_wp2_with fail
    refine Calls.mono (text_src b (act6 s) 8192 wI T4.out.src) ?_
    rintro ev wJ ⟨rfl, sx, tx⟩
    have T5x := Lib.hid (T4.out.take (r' := act7 s) sx tx (by omega) (by omega))
    have OM7 := Lib.hid (owns_kept OM6.out tx (by omega))
    have OC7 := Lib.hid (owns_kept OC6.out tx (by omega))
    clear sx tx
    have fz : wJ.frozen? ⟨A, 11, none⟩ = false := by have := T5x.out.act; simp [World.frozen?, this]
    have xz := cell_at T5x.out.act 11 (v := .string ⟨#[]⟩) rfl
    have T5 := Lib.hid (show TS w (wJ.setCell ⟨A, 11, none⟩ (.string ⟨((act6 s).textB 8192).toArray⟩)) b A (act7 s) #[.int .i64 g0, .int .i64 g1, .int .i64 g2, .int .i64 g3, .int .i64 g4, .int .i64 g5, .int .i64 g6, .string ⟨((act3 s).textB 8192).toArray⟩, .bool (act2 s).boolV, .slice aM ((act4 s).listV 3 4).length pM, .slice aC ((act5 s).listV 3 4).length pC, .string ⟨((act6 s).textB 8192).toArray⟩] from T5x.out.set (by omega) hA2 11 _)
    have OM8 := Lib.hid (owns_kept OM7.out ((Only.refl A wJ).set 11 (.string ⟨((act6 s).textB 8192).toArray⟩)) (by omega))
    have OC8 := Lib.hid (owns_kept OC7.out ((Only.refl A wJ).set 11 (.string ⟨((act6 s).textB 8192).toArray⟩)) (by omega))
    go_upto_region 11 with fail
    clear fz xz
    generalize wJ.setCell ⟨A, 11, none⟩ (.string ⟨((act6 s).textB 8192).toArray⟩) = wK at *
    have T6 := Lib.hid (show TS w wK b A (act7 s) (actC (actT s) (.slice aM ((act4 s).listV 3 4).length pM) (.slice aC ((act5 s).listV 3 4).length pC)) from by
      have h := T5.out
      obtain ⟨q0, q1, q2, q3, q4, q5, q6⟩ := HG.out
      have e : actT s = ⟨g0, g1, g2, g3, g4, g5, g6, (act3 s).textB 8192, (act2 s).boolV, (act4 s).listV 3 4, (act5 s).listV 3 4, (act6 s).textB 8192⟩ := by
        unfold actT
        rw [show actL s = L from HL.out, q0, q1, q2, q3, q4, q5, q6]
      rw [e]
      exact h)
    have HROW := Lib.hid (show RW wK (A + 1) (actT s) (.slice aM ((act4 s).listV 3 4).length pM) (.slice aC ((act5 s).listV 3 4).length pC) from ⟨OM8.out, OC8.out⟩)
    have HDS := Lib.hid (show (actT s).D.length + (actT s).S.length ≤ 9223372036854775807 ∧ (actT s).M.length ≤ 9223372036854775807 ∧ (actT s).C.length ≤ 9223372036854775807 from by
      have h1 : (actT s).D.length ≤ 8192 := tb_le (act3 s)
      have h2 : (actT s).S.length ≤ 8192 := tb_le (act6 s)
      exact ⟨by omega, lv_le (act4 s), lv_le (act5 s)⟩)
    clear T5 OM4 OM5 OM6 OM7 OM8 OC6 OC7 OC8 T0 T1 T2 T3 T4 T1x T2x T3x T4x T5x oM oC HG
    obtain ⟨mn, hmn⟩ : ∃ mn, ((act4 s).listV 3 4).length = mn := ⟨_, rfl⟩
    obtain ⟨cn, hcn⟩ : ∃ cn, ((act5 s).listV 3 4).length = cn := ⟨_, rfl⟩
    rw [hmn, hcn] at T6 HROW
    rw [hmn, hcn]
    clear hmn hcn
    have ce := end_src b (act7 s) wK T6.out.src
    go_wp2_with fail
    refine Calls.mono ce ?_
    rintro ev w10 ⟨rfl, sx, tx⟩
    have T7 := Lib.hid (show TS w w10 b A (act8 s) _ from T6.out.take sx tx (by omega) (by omega))
    have R7 := Lib.hid (HROW.out.kept tx (by omega))
    clear ce sx tx T6 HROW
    obtain ⟨E, hE⟩ : ∃ E, (act8 s).e = E := ⟨_, rfl⟩
    have hE' : (act7 s).endS.e = E := hE
    rw [hE']
    have HE := Lib.hid hE
    clear hE hE'
    obtain ⟨d0, d1, d2, d3, d4, d5, d6, d7, d8, d9, d10, d11⟩ := actIn T7.out.act
    by_cases hE0 : E = 0
    · subst hE0
      have cm := tmay (actT s) (.slice aM mn pM) (.slice aC cn pC) w10 (R7.out.actAt HDS.out.2.1 HDS.out.2.2) HDS.out.1
      unfold actC at cm
      go_wp2_with fail
      refine Calls.mono cm ?_
      rintro ev w11 ⟨rfl, hb11⟩
      have T8 := Lib.hid (T7.out.same hb11)
      have R8 := Lib.hid (R7.out.below hb11)
      clear cm hb11 T7 R7 d0 d1 d2 d3 d4 d5 d6 d7 d8 d9 d10 d11
      by_cases hm : MayT (actT s)
      · rw [decide_eq_true hm]
        have HO := Lib.hid (show outT s = actT s ∧ actE s = 0 from by
          have ha : actE s = 0 := by unfold actE; rw [HE.out, if_neg (fun q => q.2 hm)]
          exact ⟨by unfold outT; rw [if_pos ha], ha⟩)
        clear hm
        have hce := err_some b 0 w11 (by have := T8.out.src.c1; rwa [HE.out] at this)
        obtain ⟨d0, d1, d2, d3, d4, d5, d6, d7, d8, d9, d10, d11⟩ := actIn T8.out.act
        have hR := T8.out.res
        have z0 := cell_at hR 0 (v := (.int .i64 0)) rfl
        have z1 := cell_at hR 1 (v := (.int .i64 0)) rfl
        have z2 := cell_at hR 2 (v := (.int .i64 0)) rfl
        have z3 := cell_at hR 3 (v := (.int .i64 0)) rfl
        have z4 := cell_at hR 4 (v := (.int .i64 0)) rfl
        have z5 := cell_at hR 5 (v := (.int .i64 0)) rfl
        have z6 := cell_at hR 6 (v := (.int .i64 0)) rfl
        have z7 := cell_at hR 7 (v := (.string ⟨#[]⟩)) rfl
        have z8 := cell_at hR 8 (v := (.bool false)) rfl
        have z9 := cell_at hR 9 (v := (.slice none 0 0)) rfl
        have z10 := cell_at hR 10 (v := (.slice none 0 0)) rfl
        have z11 := cell_at hR 11 (v := (.string ⟨#[]⟩)) rfl
        have fzr : ∀ j, w11.frozen? ⟨w.heap.size, j, none⟩ = false := fun j => by simp [World.frozen?, hR]
        have fz0 := fzr 0
        have fz1 := fzr 1
        have fz2 := fzr 2
        have fz3 := fzr 3
        have fz4 := fzr 4
        have fz5 := fzr 5
        have fz6 := fzr 6
        have fz7 := fzr 7
        have fz8 := fzr 8
        have fz9 := fzr 9
        have fz10 := fzr 10
        have fz11 := fzr 11
        have hch := set12 (.int .i64 0) (.int .i64 0) (.int .i64 0) (.int .i64 0) (.int .i64 0) (.int .i64 0) (.int .i64 0) (.string ⟨#[]⟩) (.bool false) (.slice none 0 0) (.slice none 0 0) (.string ⟨#[]⟩) (.int .i64 (actT s).W) (.int .i64 (actT s).P) (.int .i64 (actT s).A) (.int .i64 (actT s).B) (.int .i64 (actT s).aW) (.int .i64 (actT s).aA) (.int .i64 (actT s).aL) (.string ⟨(actT s).D.toArray⟩) (.bool (actT s).u) (.slice aM mn pM) (.slice aC cn pC) (.string ⟨(actT s).S.toArray⟩) hR
        have HCH := Lib.hid hch
        clear hch hR fzr
        go_wp2_with fail
        refine Calls.mono hce ?_
        rintro ev wq ⟨rfl, rfl⟩
        go_wp2_with fail
        generalize ((((((((((((w11.setCell ⟨w.heap.size, 0, none⟩ (.int .i64 (actT s).W)).setCell ⟨w.heap.size, 1, none⟩ (.int .i64 (actT s).P)).setCell ⟨w.heap.size, 2, none⟩ (.int .i64 (actT s).A)).setCell ⟨w.heap.size, 3, none⟩ (.int .i64 (actT s).B)).setCell ⟨w.heap.size, 4, none⟩ (.int .i64 (actT s).aW)).setCell ⟨w.heap.size, 5, none⟩ (.int .i64 (actT s).aA)).setCell ⟨w.heap.size, 6, none⟩ (.int .i64 (actT s).aL)).setCell ⟨w.heap.size, 7, none⟩ (.string ⟨(actT s).D.toArray⟩)).setCell ⟨w.heap.size, 8, none⟩ (.bool (actT s).u)).setCell ⟨w.heap.size, 9, none⟩ (.slice aM mn pM)).setCell ⟨w.heap.size, 10, none⟩ (.slice aC cn pC)).setCell ⟨w.heap.size, 11, none⟩ (.string ⟨(actT s).S.toArray⟩)) = wf at *
        have fi := HCH.out.1
        have y0 := cell_at fi 0 (v := (.int .i64 (actT s).W)) rfl
        have y1 := cell_at fi 1 (v := (.int .i64 (actT s).P)) rfl
        have y2 := cell_at fi 2 (v := (.int .i64 (actT s).A)) rfl
        have y3 := cell_at fi 3 (v := (.int .i64 (actT s).B)) rfl
        have y4 := cell_at fi 4 (v := (.int .i64 (actT s).aW)) rfl
        have y5 := cell_at fi 5 (v := (.int .i64 (actT s).aA)) rfl
        have y6 := cell_at fi 6 (v := (.int .i64 (actT s).aL)) rfl
        have y7 := cell_at fi 7 (v := (.string ⟨(actT s).D.toArray⟩)) rfl
        have y8 := cell_at fi 8 (v := (.bool (actT s).u)) rfl
        have y9 := cell_at fi 9 (v := (.slice aM mn pM)) rfl
        have y10 := cell_at fi 10 (v := (.slice aC cn pC)) rfl
        have y11 := cell_at fi 11 (v := (.string ⟨(actT s).S.toArray⟩)) rfl
        clear fi
        refine bodyPost_ret (v := .tuple #[.agg #[(.int .i64 (actT s).W), (.int .i64 (actT s).P), (.int .i64 (actT s).A), (.int .i64 (actT s).B), (.int .i64 (actT s).aW), (.int .i64 (actT s).aA), (.int .i64 (actT s).aL), (.string ⟨(actT s).D.toArray⟩), (.bool (actT s).u), (.slice aM mn pM), (.slice aC cn pC), (.string ⟨(actT s).S.toArray⟩)], .int .i64 0]) (by simp [results, Tryd.results43, go_sem, y0, y1, y2, y3, y4, y5, y6, y7, y8, y9, y10, y11]) rfl ?_
        exact ⟨⟨.slice aM mn pM, .slice aC cn pC, by rw [HO.out.1, HO.out.2]; rfl, by rw [HO.out.1]; exact (R8.out.kept HCH.out.2 (by omega)).raise (by omega)⟩, T8.out.below.trans (HCH.out.2.below (Nat.le_refl _) (Nat.le_of_lt (lt_heap T8.out.res)))⟩
      · rw [decide_eq_false hm]
        have HO := Lib.hid (show outT s = zT ∧ actE s = 3 from by
          have ha : actE s = 3 := by unfold actE; rw [HE.out, if_pos ⟨rfl, hm⟩]
          exact ⟨by unfold outT; rw [if_neg (by rw [ha]; decide)], ha⟩)
        clear hm
        have cw := wrong_src b (act8 s) 3 w11 T8.out.src
        go_wp2_with fail
        refine Calls.mono cw ?_
        rintro ev w12 ⟨rfl, sx, tx⟩
        have T9 := Lib.hid (T8.out.take sx tx (by omega) (by omega))
        have hce := err_some b 3 w12 (by
          have := sx.c1
          have hf : ((act8 s).fail 3).e = 3 := by unfold RS.fail; rw [if_pos ⟨HE.out, by decide⟩]
          rwa [hf] at this)
        clear cw sx tx
        have hR := T9.out.res
        have z0 := cell_at hR 0 (v := (.int .i64 0)) rfl
        have z1 := cell_at hR 1 (v := (.int .i64 0)) rfl
        have z2 := cell_at hR 2 (v := (.int .i64 0)) rfl
        have z3 := cell_at hR 3 (v := (.int .i64 0)) rfl
        have z4 := cell_at hR 4 (v := (.int .i64 0)) rfl
        have z5 := cell_at hR 5 (v := (.int .i64 0)) rfl
        have z6 := cell_at hR 6 (v := (.int .i64 0)) rfl
        have z7 := cell_at hR 7 (v := (.string ⟨#[]⟩)) rfl
        have z8 := cell_at hR 8 (v := (.bool false)) rfl
        have z9 := cell_at hR 9 (v := (.slice none 0 0)) rfl
        have z10 := cell_at hR 10 (v := (.slice none 0 0)) rfl
        have z11 := cell_at hR 11 (v := (.string ⟨#[]⟩)) rfl
        have fzr : ∀ j, w12.frozen? ⟨w.heap.size, j, none⟩ = false := fun j => by simp [World.frozen?, hR]
        have fz0 := fzr 0
        have fz1 := fzr 1
        have fz2 := fzr 2
        have fz3 := fzr 3
        have fz4 := fzr 4
        have fz5 := fzr 5
        have fz6 := fzr 6
        have fz7 := fzr 7
        have fz8 := fzr 8
        have fz9 := fzr 9
        have fz10 := fzr 10
        have fz11 := fzr 11
        have hch := set12 (.int .i64 0) (.int .i64 0) (.int .i64 0) (.int .i64 0) (.int .i64 0) (.int .i64 0) (.int .i64 0) (.string ⟨#[]⟩) (.bool false) (.slice none 0 0) (.slice none 0 0) (.string ⟨#[]⟩) (.int .i64 0) (.int .i64 0) (.int .i64 0) (.int .i64 0) (.int .i64 0) (.int .i64 0) (.int .i64 0) (.string ⟨#[]⟩) (.bool false) (.slice none 0 0) (.slice none 0 0) (.string ⟨#[]⟩) hR
        have HCH := Lib.hid hch
        clear hch hR fzr
        go_wp2_with fail
        refine Calls.mono hce ?_
        rintro ev wq ⟨rfl, rfl⟩
        go_wp2_with fail
        refine Calls.mono hce ?_
        rintro ev wq ⟨rfl, rfl⟩
        go_wp2_with fail
        generalize ((((((((((((w12.setCell ⟨w.heap.size, 0, none⟩ (.int .i64 0)).setCell ⟨w.heap.size, 1, none⟩ (.int .i64 0)).setCell ⟨w.heap.size, 2, none⟩ (.int .i64 0)).setCell ⟨w.heap.size, 3, none⟩ (.int .i64 0)).setCell ⟨w.heap.size, 4, none⟩ (.int .i64 0)).setCell ⟨w.heap.size, 5, none⟩ (.int .i64 0)).setCell ⟨w.heap.size, 6, none⟩ (.int .i64 0)).setCell ⟨w.heap.size, 7, none⟩ (.string ⟨#[]⟩)).setCell ⟨w.heap.size, 8, none⟩ (.bool false)).setCell ⟨w.heap.size, 9, none⟩ (.slice none 0 0)).setCell ⟨w.heap.size, 10, none⟩ (.slice none 0 0)).setCell ⟨w.heap.size, 11, none⟩ (.string ⟨#[]⟩)) = wf at *
        have fi := HCH.out.1
        have y0 := cell_at fi 0 (v := (.int .i64 0)) rfl
        have y1 := cell_at fi 1 (v := (.int .i64 0)) rfl
        have y2 := cell_at fi 2 (v := (.int .i64 0)) rfl
        have y3 := cell_at fi 3 (v := (.int .i64 0)) rfl
        have y4 := cell_at fi 4 (v := (.int .i64 0)) rfl
        have y5 := cell_at fi 5 (v := (.int .i64 0)) rfl
        have y6 := cell_at fi 6 (v := (.int .i64 0)) rfl
        have y7 := cell_at fi 7 (v := (.string ⟨#[]⟩)) rfl
        have y8 := cell_at fi 8 (v := (.bool false)) rfl
        have y9 := cell_at fi 9 (v := (.slice none 0 0)) rfl
        have y10 := cell_at fi 10 (v := (.slice none 0 0)) rfl
        have y11 := cell_at fi 11 (v := (.string ⟨#[]⟩)) rfl
        clear fi
        refine bodyPost_ret (v := .tuple #[.agg #[(.int .i64 0), (.int .i64 0), (.int .i64 0), (.int .i64 0), (.int .i64 0), (.int .i64 0), (.int .i64 0), (.string ⟨#[]⟩), (.bool false), (.slice none 0 0), (.slice none 0 0), (.string ⟨#[]⟩)], .int .i64 3]) (by simp [results, Tryd.results43, go_sem, y0, y1, y2, y3, y4, y5, y6, y7, y8, y9, y10, y11]) rfl ?_
        exact ⟨⟨.slice none 0 0, .slice none 0 0, by rw [HO.out.1, HO.out.2]; rfl, by rw [HO.out.1]; exact zT_rw wf _⟩, T9.out.below.trans (HCH.out.2.below (Nat.le_refl _) (Nat.le_of_lt (lt_heap T9.out.res)))⟩
    · have heb : (E == 0) = false := by simpa using hE0
      have heb' : (E != 0) = true := by simpa using hE0
      have HO := Lib.hid (show outT s = zT ∧ actE s = E from by
        have ha : actE s = E := by unfold actE; rw [HE.out, if_neg (fun q => hE0 q.1)]
        exact ⟨by unfold outT; rw [if_neg (by rw [ha]; exact hE0)], ha⟩)
      have hce := err_some b E w10 (by have := T7.out.src.c1; rwa [HE.out] at this)
      clear hE0
      have hR := T7.out.res
      have z0 := cell_at hR 0 (v := (.int .i64 0)) rfl
      have z1 := cell_at hR 1 (v := (.int .i64 0)) rfl
      have z2 := cell_at hR 2 (v := (.int .i64 0)) rfl
      have z3 := cell_at hR 3 (v := (.int .i64 0)) rfl
      have z4 := cell_at hR 4 (v := (.int .i64 0)) rfl
      have z5 := cell_at hR 5 (v := (.int .i64 0)) rfl
      have z6 := cell_at hR 6 (v := (.int .i64 0)) rfl
      have z7 := cell_at hR 7 (v := (.string ⟨#[]⟩)) rfl
      have z8 := cell_at hR 8 (v := (.bool false)) rfl
      have z9 := cell_at hR 9 (v := (.slice none 0 0)) rfl
      have z10 := cell_at hR 10 (v := (.slice none 0 0)) rfl
      have z11 := cell_at hR 11 (v := (.string ⟨#[]⟩)) rfl
      have fzr : ∀ j, w10.frozen? ⟨w.heap.size, j, none⟩ = false := fun j => by simp [World.frozen?, hR]
      have fz0 := fzr 0
      have fz1 := fzr 1
      have fz2 := fzr 2
      have fz3 := fzr 3
      have fz4 := fzr 4
      have fz5 := fzr 5
      have fz6 := fzr 6
      have fz7 := fzr 7
      have fz8 := fzr 8
      have fz9 := fzr 9
      have fz10 := fzr 10
      have fz11 := fzr 11
      have hch := set12 (.int .i64 0) (.int .i64 0) (.int .i64 0) (.int .i64 0) (.int .i64 0) (.int .i64 0) (.int .i64 0) (.string ⟨#[]⟩) (.bool false) (.slice none 0 0) (.slice none 0 0) (.string ⟨#[]⟩) (.int .i64 0) (.int .i64 0) (.int .i64 0) (.int .i64 0) (.int .i64 0) (.int .i64 0) (.int .i64 0) (.string ⟨#[]⟩) (.bool false) (.slice none 0 0) (.slice none 0 0) (.string ⟨#[]⟩) hR
      have HCH := Lib.hid hch
      clear hch hR fzr
      go_wp2_with fail
      refine Calls.mono hce ?_
      rintro ev wq ⟨rfl, rfl⟩
      go_wp2_with fail
      refine Calls.mono hce ?_
      rintro ev wq ⟨rfl, rfl⟩
      go_wp2_with fail
      generalize ((((((((((((w10.setCell ⟨w.heap.size, 0, none⟩ (.int .i64 0)).setCell ⟨w.heap.size, 1, none⟩ (.int .i64 0)).setCell ⟨w.heap.size, 2, none⟩ (.int .i64 0)).setCell ⟨w.heap.size, 3, none⟩ (.int .i64 0)).setCell ⟨w.heap.size, 4, none⟩ (.int .i64 0)).setCell ⟨w.heap.size, 5, none⟩ (.int .i64 0)).setCell ⟨w.heap.size, 6, none⟩ (.int .i64 0)).setCell ⟨w.heap.size, 7, none⟩ (.string ⟨#[]⟩)).setCell ⟨w.heap.size, 8, none⟩ (.bool false)).setCell ⟨w.heap.size, 9, none⟩ (.slice none 0 0)).setCell ⟨w.heap.size, 10, none⟩ (.slice none 0 0)).setCell ⟨w.heap.size, 11, none⟩ (.string ⟨#[]⟩)) = wf at *
      have fi := HCH.out.1
      have y0 := cell_at fi 0 (v := (.int .i64 0)) rfl
      have y1 := cell_at fi 1 (v := (.int .i64 0)) rfl
      have y2 := cell_at fi 2 (v := (.int .i64 0)) rfl
      have y3 := cell_at fi 3 (v := (.int .i64 0)) rfl
      have y4 := cell_at fi 4 (v := (.int .i64 0)) rfl
      have y5 := cell_at fi 5 (v := (.int .i64 0)) rfl
      have y6 := cell_at fi 6 (v := (.int .i64 0)) rfl
      have y7 := cell_at fi 7 (v := (.string ⟨#[]⟩)) rfl
      have y8 := cell_at fi 8 (v := (.bool false)) rfl
      have y9 := cell_at fi 9 (v := (.slice none 0 0)) rfl
      have y10 := cell_at fi 10 (v := (.slice none 0 0)) rfl
      have y11 := cell_at fi 11 (v := (.string ⟨#[]⟩)) rfl
      clear fi
      refine bodyPost_ret (v := .tuple #[.agg #[(.int .i64 0), (.int .i64 0), (.int .i64 0), (.int .i64 0), (.int .i64 0), (.int .i64 0), (.int .i64 0), (.string ⟨#[]⟩), (.bool false), (.slice none 0 0), (.slice none 0 0), (.string ⟨#[]⟩)], .int .i64 E]) (by simp [results, Tryd.results43, go_sem, y0, y1, y2, y3, y4, y5, y6, y7, y8, y9, y10, y11]) rfl ?_
      exact ⟨⟨.slice none 0 0, .slice none 0 0, by rw [HO.out.1, HO.out.2]; rfl, by rw [HO.out.1]; exact zT_rw wf _⟩, T7.out.below.trans (HCH.out.2.below (Nat.le_refl _) (Nat.le_of_lt (lt_heap T7.out.res)))⟩
end Go.Proofs.YtkdmnhmlkcejfaaDoor
