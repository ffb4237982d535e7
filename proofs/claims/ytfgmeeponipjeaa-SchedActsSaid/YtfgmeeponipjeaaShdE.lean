/-
  sched: an act is drawn.
-/
import Derived.Test.YtfgmeeponipjeaaShdB
import Derived.Test.YtfgmeeponipjeaaShdD
namespace Go.Proofs.Ytfgmeeponipjeaa
open Go.RowKit
set_option linter.unusedVariables false
set_option linter.unusedSimpArgs false

structure AV where
  k : Int
  who : Int
  a : Int
  b : Int
  aw : Int
  aa : Int
  al : Int
  ad : ByteArray
  sur : Bool
  M : List Int
  C : List Int
  S : ByteArray
def actC (r : AV) (vM vC : Value) : Array Value := #[.int .i64 r.k, .int .i64 r.who, .int .i64 r.a, .int .i64 r.b, .int .i64 r.aw, .int .i64 r.aa, .int .i64 r.al, .string r.ad, .bool r.sur, vM, vC, .string r.S]
def letS (t : Int) : ByteArray := (letF t).extract 0 (bl (stN t 32) 8).toNat
/-- the act of a kind, drawn from a state on; and the state behind it -/
def actK (K t b : Int) : AV × Int :=
  if K = 0 then (⟨0, 5 + bl t 2, 0, 0, bl (nx t) 4, bl (nx (nx t)) b * 32, askL (nx t), askD (nx t), askB (nx t), [], [], ⟨#[]⟩⟩, askS (nx t))
  else if K = 1 then (⟨1, 5 + bl t 2, 0, 0, 0, 0, 0, ⟨#[]⟩, false, listF (nx t) 0, listF (n3 t) 1, ⟨#[]⟩⟩, nx (nx (n3 t)))
  else if K = 2 then (⟨2, 5 + bl t 2, bl (nx t) 64, 0, 0, 0, 0, ⟨#[]⟩, false, [], [], ⟨#[]⟩⟩, nx (nx t))
  else if K = 3 ∨ K = 4 ∨ K = 5 then (⟨K, 0, bl t 400, 0, 0, 0, 0, ⟨#[]⟩, false, [], [], ⟨#[]⟩⟩, nx t)
  else if K = 6 then (⟨6, 0, 0, 0, 0, 0, 0, ⟨#[]⟩, false, [], [], letS t⟩, nx (stN t 32))
  else if K = 9 then (⟨9, bl t 7, bl (nx t) 4, bl (nx (nx t)) 1073741824, 0, 0, 0, ⟨#[]⟩, false, [], [], ⟨#[]⟩⟩, n3 t)
  else if K = 7 ∨ K = 10 then (⟨K, bl t 7, 0, 0, 0, 0, 0, ⟨#[]⟩, false, [], [], ⟨#[]⟩⟩, nx t)
  else (⟨K, bl t 5, 0, 0, 0, 0, 0, ⟨#[]⟩, false, [], [], ⟨#[]⟩⟩, nx t)
structure QS (g R Q : Nat) (s : Int) (w wx : World) (cs : Array Value) : Prop where
  q : wx.heap[Q]? = some (.cells cs 72)
  r : wx.heap[R]? = some (.cells #[.int .i64 0, .int .i64 0, .int .i64 0, .int .i64 0, .int .i64 0, .int .i64 0, .int .i64 0, .string ⟨#[]⟩, .bool false, .slice none 0 0, .slice none 0 0, .string ⟨#[]⟩] 72)
  sb : SB wx g s
  only : Only g w wx
  gR : g < R
  RQ : R < Q
  wR : w.heap.size ≤ R
theorem QS.call {g R Q : Nat} {s s' : Int} {w wx w' : World} {cs : Array Value} (h : QS g R Q s w wx cs) (hs : SB w' g s') (ho : Only g wx w') : QS g R Q s' w w' cs :=
  ⟨(ho.block Q (lt_heap h.q) (by have := h.gR; have := h.RQ; omega)).trans h.q, (ho.block R (lt_heap h.r) (by have := h.gR; omega)).trans h.r, hs, h.only.trans ho, h.gR, h.RQ, h.wR⟩
theorem QS.set {g R Q : Nat} {s : Int} {w wx : World} {cs : Array Value} (h : QS g R Q s w wx cs) (k : Nat) (v : Value) : QS g R Q s w (wx.setCell ⟨Q, k, none⟩ v) (cs.setIfInBounds k v) :=
  ⟨heap_set_self h.q k v, (Below.heap_setCell _ _ _ _ (show R ≠ Q by have := h.RQ; omega)).trans h.r, sb_far h.sb (by have := h.gR; have := h.RQ; omega) k v, only_new h.only (by have := h.wR; have := h.RQ; omega) k v, h.gR, h.RQ, h.wR⟩
theorem own_typeS {w : World} {base g : Nat} {e : TypeId} {size n : Nat} {v : Value} {xs : List Value} (h : w.ownsRow base e size v n xs) (hv : v.ownBlock = some g) : ∃ cur, w.heap[g]? = some (.cells cur e (0, 0)) := by
  rcases h.2 with ⟨rfl, -⟩ | ⟨b, cap, cur, rfl, hb, hg, -⟩
  · cases hv
  · injection hv with hv
    subst hv
    exact ⟨cur, hg⟩
theorem own_moveS {w w' : World} {base : Nat} {e : TypeId} {size n : Nat} {v : Value} {xs : List Value} (h : w.ownsRow base e size v n xs) (hk : ∀ g, v.ownBlock = some g → w'.heap[g]? = w.heap[g]?) : w'.ownsRow base e size v n xs := by
  refine ⟨h.1, ?_⟩
  rcases h.2 with hn | ⟨g, cap, cur, rfl, hb, hg, rest⟩
  · exact .inl hn
  · exact .inr ⟨g, cap, cur, rfl, hb, (hk g rfl).trans hg, rest⟩
theorem own_baseS {w : World} {base base' : Nat} {e : TypeId} {size n : Nat} {v : Value} {xs : List Value} (h : w.ownsRow base e size v n xs) (hb : base' ≤ base) : w.ownsRow base' e size v n xs := by
  refine ⟨h.1, ?_⟩
  rcases h.2 with hn | ⟨g, cap, cur, rfl, hg0, rest⟩
  · exact .inl hn
  · exact .inr ⟨g, cap, cur, rfl, Nat.le_trans hb hg0, rest⟩
/-- a row of numbers stays while the drawer turns -/
theorem row_only {w w' : World} {base g n : Nat} {s : Int} {v : Value} {xs : List Value} (h : w.ownsRow base 3 1 v n xs) (hs : SB w g s) (ho : Only g w w') : w'.ownsRow base 3 1 v n xs := own_moveS h fun b e => by
  obtain ⟨c, hc⟩ := own_typeS h e
  refine ho.block b (lt_heap hc) fun q => ?_
  subst q
  unfold SB at hs
  rw [hs] at hc
  injection hc with hc
  injection hc with _ h2
  exact absurd h2 (by decide)
theorem row_set {w : World} {base Q n k : Nat} {v u : Value} {xs : List Value} {cs : Array Value} (h : w.ownsRow base 3 1 v n xs) (hq : w.heap[Q]? = some (.cells cs 72)) : (w.setCell ⟨Q, k, none⟩ u).ownsRow base 3 1 v n xs := own_moveS h fun b e => by
  obtain ⟨c, hc⟩ := own_typeS h e
  refine Below.heap_setCell _ _ _ _ (show b ≠ Q from fun q => ?_)
  subst q
  rw [hq] at hc
  injection hc with hc
  injection hc with _ h2
  exact absurd h2 (by decide)
/-- an act is ready -/
def AQ (g R Q : Nat) (r : AV × Int) (w wx : World) : Prop := ∃ vM vC, QS g R Q r.2 w wx (actC r.1 vM vC) ∧ wx.ownsRow w.heap.size 3 1 vM r.1.M.length (nCells r.1.M) ∧ wx.ownsRow w.heap.size 3 1 vC r.1.C.length (nCells r.1.C)
theorem AQ.plain {g R Q : Nat} {r : AV × Int} {w wx : World} (h : QS g R Q r.2 w wx (actC r.1 (.slice none 0 0) (.slice none 0 0))) (hM : r.1.M = []) (hC : r.1.C = []) : AQ g R Q r w wx := by
  refine ⟨_, _, h, ?_, ?_⟩
  · rw [hM]; exact World.ownsRow_nil _ _ _ _
  · rw [hC]; exact World.ownsRow_nil _ _ _ _
theorem over12 {w : World} {R : Nat} {t : TypeId} {a0 a1 a2 a3 a4 a5 a6 a7 a8 a9 a10 a11 : Value} (h : w.heap[R]? = some (.cells #[a0, a1, a2, a3, a4, a5, a6, a7, a8, a9, a10, a11] t)) (v0 v1 v2 v3 v4 v5 v6 v7 v8 v9 v10 v11 : Value) :
    ((((((((((((w.setCell ⟨R, 0, none⟩ v0).setCell ⟨R, 1, none⟩ v1).setCell ⟨R, 2, none⟩ v2).setCell ⟨R, 3, none⟩ v3).setCell ⟨R, 4, none⟩ v4).setCell ⟨R, 5, none⟩ v5).setCell ⟨R, 6, none⟩ v6).setCell ⟨R, 7, none⟩ v7).setCell ⟨R, 8, none⟩ v8).setCell ⟨R, 9, none⟩ v9).setCell ⟨R, 10, none⟩ v10).setCell ⟨R, 11, none⟩ v11).heap[R]? = some (.cells #[v0, v1, v2, v3, v4, v5, v6, v7, v8, v9, v10, v11] t) := by
  have h0 : (w.setCell ⟨R, 0, none⟩ v0).heap[R]? = some (.cells #[v0, a1, a2, a3, a4, a5, a6, a7, a8, a9, a10, a11] t) := heap_set_self h 0 v0
  have h1 : ((w.setCell ⟨R, 0, none⟩ v0).setCell ⟨R, 1, none⟩ v1).heap[R]? = some (.cells #[v0, v1, a2, a3, a4, a5, a6, a7, a8, a9, a10, a11] t) := heap_set_self h0 1 v1
  have h2 : (((w.setCell ⟨R, 0, none⟩ v0).setCell ⟨R, 1, none⟩ v1).setCell ⟨R, 2, none⟩ v2).heap[R]? = some (.cells #[v0, v1, v2, a3, a4, a5, a6, a7, a8, a9, a10, a11] t) := heap_set_self h1 2 v2
  have h3 : ((((w.setCell ⟨R, 0, none⟩ v0).setCell ⟨R, 1, none⟩ v1).setCell ⟨R, 2, none⟩ v2).setCell ⟨R, 3, none⟩ v3).heap[R]? = some (.cells #[v0, v1, v2, v3, a4, a5, a6, a7, a8, a9, a10, a11] t) := heap_set_self h2 3 v3
  have h4 : (((((w.setCell ⟨R, 0, none⟩ v0).setCell ⟨R, 1, none⟩ v1).setCell ⟨R, 2, none⟩ v2).setCell ⟨R, 3, none⟩ v3).setCell ⟨R, 4, none⟩ v4).heap[R]? = some (.cells #[v0, v1, v2, v3, v4, a5, a6, a7, a8, a9, a10, a11] t) := heap_set_self h3 4 v4
  have h5 : ((((((w.setCell ⟨R, 0, none⟩ v0).setCell ⟨R, 1, none⟩ v1).setCell ⟨R, 2, none⟩ v2).setCell ⟨R, 3, none⟩ v3).setCell ⟨R, 4, none⟩ v4).setCell ⟨R, 5, none⟩ v5).heap[R]? = some (.cells #[v0, v1, v2, v3, v4, v5, a6, a7, a8, a9, a10, a11] t) := heap_set_self h4 5 v5
  have h6 : (((((((w.setCell ⟨R, 0, none⟩ v0).setCell ⟨R, 1, none⟩ v1).setCell ⟨R, 2, none⟩ v2).setCell ⟨R, 3, none⟩ v3).setCell ⟨R, 4, none⟩ v4).setCell ⟨R, 5, none⟩ v5).setCell ⟨R, 6, none⟩ v6).heap[R]? = some (.cells #[v0, v1, v2, v3, v4, v5, v6, a7, a8, a9, a10, a11] t) := heap_set_self h5 6 v6
  have h7 : ((((((((w.setCell ⟨R, 0, none⟩ v0).setCell ⟨R, 1, none⟩ v1).setCell ⟨R, 2, none⟩ v2).setCell ⟨R, 3, none⟩ v3).setCell ⟨R, 4, none⟩ v4).setCell ⟨R, 5, none⟩ v5).setCell ⟨R, 6, none⟩ v6).setCell ⟨R, 7, none⟩ v7).heap[R]? = some (.cells #[v0, v1, v2, v3, v4, v5, v6, v7, a8, a9, a10, a11] t) := heap_set_self h6 7 v7
  have h8 : (((((((((w.setCell ⟨R, 0, none⟩ v0).setCell ⟨R, 1, none⟩ v1).setCell ⟨R, 2, none⟩ v2).setCell ⟨R, 3, none⟩ v3).setCell ⟨R, 4, none⟩ v4).setCell ⟨R, 5, none⟩ v5).setCell ⟨R, 6, none⟩ v6).setCell ⟨R, 7, none⟩ v7).setCell ⟨R, 8, none⟩ v8).heap[R]? = some (.cells #[v0, v1, v2, v3, v4, v5, v6, v7, v8, a9, a10, a11] t) := heap_set_self h7 8 v8
  have h9 : ((((((((((w.setCell ⟨R, 0, none⟩ v0).setCell ⟨R, 1, none⟩ v1).setCell ⟨R, 2, none⟩ v2).setCell ⟨R, 3, none⟩ v3).setCell ⟨R, 4, none⟩ v4).setCell ⟨R, 5, none⟩ v5).setCell ⟨R, 6, none⟩ v6).setCell ⟨R, 7, none⟩ v7).setCell ⟨R, 8, none⟩ v8).setCell ⟨R, 9, none⟩ v9).heap[R]? = some (.cells #[v0, v1, v2, v3, v4, v5, v6, v7, v8, v9, a10, a11] t) := heap_set_self h8 9 v9
  have h10 : (((((((((((w.setCell ⟨R, 0, none⟩ v0).setCell ⟨R, 1, none⟩ v1).setCell ⟨R, 2, none⟩ v2).setCell ⟨R, 3, none⟩ v3).setCell ⟨R, 4, none⟩ v4).setCell ⟨R, 5, none⟩ v5).setCell ⟨R, 6, none⟩ v6).setCell ⟨R, 7, none⟩ v7).setCell ⟨R, 8, none⟩ v8).setCell ⟨R, 9, none⟩ v9).setCell ⟨R, 10, none⟩ v10).heap[R]? = some (.cells #[v0, v1, v2, v3, v4, v5, v6, v7, v8, v9, v10, a11] t) := heap_set_self h9 10 v10
  have h11 : ((((((((((((w.setCell ⟨R, 0, none⟩ v0).setCell ⟨R, 1, none⟩ v1).setCell ⟨R, 2, none⟩ v2).setCell ⟨R, 3, none⟩ v3).setCell ⟨R, 4, none⟩ v4).setCell ⟨R, 5, none⟩ v5).setCell ⟨R, 6, none⟩ v6).setCell ⟨R, 7, none⟩ v7).setCell ⟨R, 8, none⟩ v8).setCell ⟨R, 9, none⟩ v9).setCell ⟨R, 10, none⟩ v10).setCell ⟨R, 11, none⟩ v11).heap[R]? = some (.cells #[v0, v1, v2, v3, v4, v5, v6, v7, v8, v9, v10, v11] t) := heap_set_self h10 11 v11
  exact h11
theorem far12 {w : World} {R j : Nat} (hj : j ≠ R) (v0 v1 v2 v3 v4 v5 v6 v7 v8 v9 v10 v11 : Value) : ((((((((((((w.setCell ⟨R, 0, none⟩ v0).setCell ⟨R, 1, none⟩ v1).setCell ⟨R, 2, none⟩ v2).setCell ⟨R, 3, none⟩ v3).setCell ⟨R, 4, none⟩ v4).setCell ⟨R, 5, none⟩ v5).setCell ⟨R, 6, none⟩ v6).setCell ⟨R, 7, none⟩ v7).setCell ⟨R, 8, none⟩ v8).setCell ⟨R, 9, none⟩ v9).setCell ⟨R, 10, none⟩ v10).setCell ⟨R, 11, none⟩ v11).heap[j]? = w.heap[j]? := ((Below.heap_setCell _ _ _ _ hj).trans ((Below.heap_setCell _ _ _ _ hj).trans ((Below.heap_setCell _ _ _ _ hj).trans ((Below.heap_setCell _ _ _ _ hj).trans ((Below.heap_setCell _ _ _ _ hj).trans ((Below.heap_setCell _ _ _ _ hj).trans ((Below.heap_setCell _ _ _ _ hj).trans ((Below.heap_setCell _ _ _ _ hj).trans ((Below.heap_setCell _ _ _ _ hj).trans ((Below.heap_setCell _ _ _ _ hj).trans ((Below.heap_setCell _ _ _ _ hj).trans ((Below.heap_setCell _ _ _ _ hj).trans rfl))))))))))))
theorem only12 {w w0 : World} {g R : Nat} (h : Only g w0 w) (hR : w0.heap.size ≤ R) (v0 v1 v2 v3 v4 v5 v6 v7 v8 v9 v10 v11 : Value) : Only g w0 ((((((((((((w.setCell ⟨R, 0, none⟩ v0).setCell ⟨R, 1, none⟩ v1).setCell ⟨R, 2, none⟩ v2).setCell ⟨R, 3, none⟩ v3).setCell ⟨R, 4, none⟩ v4).setCell ⟨R, 5, none⟩ v5).setCell ⟨R, 6, none⟩ v6).setCell ⟨R, 7, none⟩ v7).setCell ⟨R, 8, none⟩ v8).setCell ⟨R, 9, none⟩ v9).setCell ⟨R, 10, none⟩ v10).setCell ⟨R, 11, none⟩ v11) := (only_new (only_new (only_new (only_new (only_new (only_new (only_new (only_new (only_new (only_new (only_new (only_new h hR 0 v0) hR 1 v1) hR 2 v2) hR 3 v3) hR 4 v4) hR 5 v5) hR 6 v6) hR 7 v7) hR 8 v8) hR 9 v9) hR 10 v10) hR 11 v11)
theorem row12 {w : World} {base R n : Nat} {v : Value} {xs : List Value} {cs : Array Value} (h : w.ownsRow base 3 1 v n xs) (hq : w.heap[R]? = some (.cells cs 72)) (v0 v1 v2 v3 v4 v5 v6 v7 v8 v9 v10 v11 : Value) : ((((((((((((w.setCell ⟨R, 0, none⟩ v0).setCell ⟨R, 1, none⟩ v1).setCell ⟨R, 2, none⟩ v2).setCell ⟨R, 3, none⟩ v3).setCell ⟨R, 4, none⟩ v4).setCell ⟨R, 5, none⟩ v5).setCell ⟨R, 6, none⟩ v6).setCell ⟨R, 7, none⟩ v7).setCell ⟨R, 8, none⟩ v8).setCell ⟨R, 9, none⟩ v9).setCell ⟨R, 10, none⟩ v10).setCell ⟨R, 11, none⟩ v11).ownsRow base 3 1 v n xs := own_moveS h fun b e => by
  obtain ⟨c, hc⟩ := own_typeS h e
  refine far12 (fun q => ?_) v0 v1 v2 v3 v4 v5 v6 v7 v8 v9 v10 v11
  subst q
  rw [hq] at hc
  injection hc with hc
  injection hc with _ h2
  exact absurd h2 (by decide)
set_option maxHeartbeats 12800000 in
set_option maxRecDepth 100000 in
theorem sact_pre (g : Nat) (s b : Int) (w : World) (h : SB w g s) (hb : 1 ≤ b) (hb2 : b ≤ 64) : Calls Try.prog 27 #[.pointer (some ⟨g, 0, none⟩), .int .i64 b] w fun e w' => ∃ vM vC, e = .returned (.tuple #[.agg (actC (actK (kdF (bl s 166)) (nx s) b).1 vM vC), .bool true]) ∧ w'.ownsRow w.heap.size 3 1 vM (actK (kdF (bl s 166)) (nx s) b).1.M.length (nCells (actK (kdF (bl s 166)) (nx s) b).1.M) ∧ w'.ownsRow w.heap.size 3 1 vC (actK (kdF (bl s 166)) (nx s) b).1.C.length (nCells (actK (kdF (bl s 166)) (nx s) b).1.C) ∧ SB w' g (actK (kdF (bl s 166)) (nx s) b).2 ∧ Only g w w' := by
  have hx := heap_alloc_self w (.cells #[.int .i64 0, .int .i64 0, .int .i64 0, .int .i64 0, .int .i64 0, .int .i64 0, .int .i64 0, .string ⟨#[]⟩, .bool false, .slice none 0 0, .slice none 0 0, .string ⟨#[]⟩] 72)
  have hb0 := (Below.refl w.heap.size w).alloc (Nat.le_refl _) (.cells #[.int .i64 0, .int .i64 0, .int .i64 0, .int .i64 0, .int .i64 0, .int .i64 0, .int .i64 0, .string ⟨#[]⟩, .bool false, .slice none 0 0, .slice none 0 0, .string ⟨#[]⟩] 72)
  have ck := fun w h => skind g s w h
  obtain ⟨K1, K2⟩ := kdF_range (bl s 166)
  obtain ⟨K, hK⟩ : ∃ K, kdF (bl s 166) = K := ⟨_, rfl⟩
  obtain ⟨t, ht⟩ : ∃ t, nx s = t := ⟨_, rfl⟩
  rw [hK, ht]
  rw [hK] at ck K1 K2
  rw [ht] at ck
  have hgl := lt_heap h
  have H0 := Lib.hid (And.intro (h.below hb0) (And.intro hx (And.intro (Only.of_below (b := g) hb0) hgl)))
  have HT := Lib.hid ht
  clear hx hb0 h hK ht
  go_enter Try.func27, Try.ntmps27
  go_upto_region 1 with fail
  generalize w.alloc (.cells #[.int .i64 0, .int .i64 0, .int .i64 0, .int .i64 0, .int .i64 0, .int .i64 0, .int .i64 0, .string ⟨#[]⟩, .bool false, .slice none 0 0, .slice none 0 0, .string ⟨#[]⟩] 72) = w0 at *
  have cc := ck w0 H0.out.1
  clear ck
  go_wp2_with fail
  refine Calls.mono cc ?_
  rintro e w1 ⟨rfl, hw1⟩
  rw [← HT.out] at hw1
  obtain ⟨hs1, ho1⟩ := H0.out.1.bl hw1
  rw [HT.out] at hs1
  have hr1 := (ho1.block w.heap.size (lt_heap H0.out.2.1) (by have := H0.out.2.2.2; omega)).trans H0.out.2.1
  have hbz := (Below.refl w1.heap.size w1).alloc (Nat.le_refl _) (.cells (#[.int .i64 K, .int .i64 0, .int .i64 0, .int .i64 0, .int .i64 0, .int .i64 0, .int .i64 0, .string ⟨#[]⟩, .bool false, .slice none 0 0, .slice none 0 0, .string ⟨#[]⟩]) 72)
  have hq := heap_alloc_self w1 (.cells #[.int .i64 K, .int .i64 0, .int .i64 0, .int .i64 0, .int .i64 0, .int .i64 0, .int .i64 0, .string ⟨#[]⟩, .bool false, .slice none 0 0, .slice none 0 0, .string ⟨#[]⟩] 72)
  have H1 := Lib.hid (show QS g w.heap.size w1.heap.size t w (w1.alloc (.cells #[.int .i64 K, .int .i64 0, .int .i64 0, .int .i64 0, .int .i64 0, .int .i64 0, .int .i64 0, .string ⟨#[]⟩, .bool false, .slice none 0 0, .slice none 0 0, .string ⟨#[]⟩] 72)) #[.int .i64 K, .int .i64 0, .int .i64 0, .int .i64 0, .int .i64 0, .int .i64 0, .int .i64 0, .string ⟨#[]⟩, .bool false, .slice none 0 0, .slice none 0 0, .string ⟨#[]⟩] from ⟨hq, below_at hbz (lt_heap hr1) hr1, hs1.below hbz, (H0.out.2.2.1.trans ho1).trans (Only.of_below hbz), H0.out.2.2.2, lt_heap hr1, Nat.le_refl _⟩)
  clear cc hw1 hs1 ho1 hr1 hbz hq H0 HT
  go_upto_region 7 with fail
  generalize w1.alloc (.cells #[.int .i64 K, .int .i64 0, .int .i64 0, .int .i64 0, .int .i64 0, .int .i64 0, .int .i64 0, .string ⟨#[]⟩, .bool false, .slice none 0 0, .slice none 0 0, .string ⟨#[]⟩] 72) = w2 at *
  obtain ⟨Q, hQ⟩ : ∃ Q, w1.heap.size = Q := ⟨_, rfl⟩
  rw [hQ] at H1 ⊢
  clear hQ
  go_upto_block 0 with fail
  go_cut [] (fun wx => Hid (AQ g w.heap.size Q (actK K t b) w wx))
  case first =>
    have hK12 : K = 0 ∨ K = 1 ∨ K = 2 ∨ K = 3 ∨ K = 4 ∨ K = 5 ∨ K = 6 ∨ K = 7 ∨ K = 8 ∨ K = 9 ∨ K = 10 ∨ K = 11 := by omega
    clear K1 K2
    rcases hK12 with rfl | rfl | rfl | rfl | rfl | rfl | rfl | rfl | rfl | rfl | rfl | rfl
    · have H2 := H1
      clear H1
      have c2 := sgate g t w2 H2.out.sb
      go_wp2_with fail
      refine Calls.mono c2 ?_
      rintro e w3 ⟨rfl, hw3⟩
      have hq3 := H2.out.call (H2.out.sb.bl hw3).1 (H2.out.sb.bl hw3).2
      have e2 := cellG hq3.q 1 (v := .int .i64 0) rfl
      have f2 := frzG hq3.q 1
      have H4 := Lib.hid (show QS g w.heap.size Q (nx (t)) w (w3.setCell ⟨Q, 1, none⟩ (.int .i64 (5 + bl t 2))) #[.int .i64 0, .int .i64 (5 + bl t 2), .int .i64 0, .int .i64 0, .int .i64 0, .int .i64 0, .int .i64 0, .string ⟨#[]⟩, .bool false, .slice none 0 0, .slice none 0 0, .string ⟨#[]⟩] from hq3.set 1 _)
      clear c2 hw3 hq3 H2
      go_upto_region 11 with fail
      generalize w3.setCell ⟨Q, 1, none⟩ (.int .i64 (5 + bl t 2)) = w4 at *
      clear e2 f2
      have c4 := sask g (nx t) b w4 H4.out.sb hb hb2
      go_wp2_with fail
      refine Calls.mono c4 ?_
      rintro e w5 ⟨rfl, hs5, ho5⟩
      have hq5 := H4.out.call hs5 ho5
      have e10 := cellG hq5.q 4 (v := .int .i64 0) rfl
      have f10 := frzG hq5.q 4
      have e11 := cellG hq5.q 5 (v := .int .i64 0) rfl
      have f11 := frzG hq5.q 5
      have e12 := cellG hq5.q 6 (v := .int .i64 0) rfl
      have f12 := frzG hq5.q 6
      have e13 := cellG hq5.q 7 (v := .string ⟨#[]⟩) rfl
      have f13 := frzG hq5.q 7
      have e14 := cellG hq5.q 8 (v := .bool false) rfl
      have f14 := frzG hq5.q 8
      have H6 := Lib.hid (show QS g w.heap.size Q (askS (nx t)) w (((((w5.setCell ⟨Q, 4, none⟩ (.int .i64 (bl (nx t) 4))).setCell ⟨Q, 5, none⟩ (.int .i64 (bl (nx (nx t)) b * 32))).setCell ⟨Q, 6, none⟩ (.int .i64 (askL (nx t)))).setCell ⟨Q, 7, none⟩ (.string (askD (nx t)))).setCell ⟨Q, 8, none⟩ (.bool (askB (nx t)))) #[.int .i64 0, .int .i64 (5 + bl t 2), .int .i64 0, .int .i64 0, .int .i64 (bl (nx t) 4), .int .i64 (bl (nx (nx t)) b * 32), .int .i64 (askL (nx t)), .string (askD (nx t)), .bool (askB (nx t)), .slice none 0 0, .slice none 0 0, .string ⟨#[]⟩] from ((((hq5.set 4 (.int .i64 (bl (nx t) 4))).set 5 (.int .i64 (bl (nx (nx t)) b * 32))).set 6 (.int .i64 (askL (nx t)))).set 7 (.string (askD (nx t)))).set 8 (.bool (askB (nx t))))
      clear c4 hs5 ho5 hq5 H4
      go_wp2_with fail
      go_meet
      exact Lib.hid (AQ.plain (r := actK 0 t b) H6.out rfl rfl)
    · have H2 := H1
      clear H1
      have c2 := sgate g t w2 H2.out.sb
      go_wp2_with fail
      refine Calls.mono c2 ?_
      rintro e w3 ⟨rfl, hw3⟩
      have hq3 := H2.out.call (H2.out.sb.bl hw3).1 (H2.out.sb.bl hw3).2
      have e2 := cellG hq3.q 1 (v := .int .i64 0) rfl
      have f2 := frzG hq3.q 1
      have H4 := Lib.hid (show QS g w.heap.size Q (nx (t)) w (w3.setCell ⟨Q, 1, none⟩ (.int .i64 (5 + bl t 2))) #[.int .i64 1, .int .i64 (5 + bl t 2), .int .i64 0, .int .i64 0, .int .i64 0, .int .i64 0, .int .i64 0, .string ⟨#[]⟩, .bool false, .slice none 0 0, .slice none 0 0, .string ⟨#[]⟩] from hq3.set 1 _)
      clear c2 hw3 hq3 H2
      go_upto_region 14 with fail
      generalize w3.setCell ⟨Q, 1, none⟩ (.int .i64 (5 + bl t 2)) = w4 at *
      clear e2 f2
      have c4 := slist g (nx t) 0 w4 H4.out.sb (by decide) (by decide)
      go_wp2_with fail
      refine Calls.mono c4 ?_
      rintro e w5 ⟨v5, rfl, hm5, hs5, ho5⟩
      obtain ⟨a5, k5, rfl, -, -⟩ := (SR.owns hm5).form
      have hm5' := own_baseS hm5 H4.out.only.size
      have hq5 := H4.out.call hs5 ho5
      have e4 := cellG hq5.q 9 (v := .slice none 0 0) rfl
      have f4 := frzG hq5.q 9
      have H6 := Lib.hid (show QS g w.heap.size Q (n3 t) w (w5.setCell ⟨Q, 9, none⟩ (.slice a5 (listF (nx t) 0).length k5)) #[.int .i64 1, .int .i64 (5 + bl t 2), .int .i64 0, .int .i64 0, .int .i64 0, .int .i64 0, .int .i64 0, .string ⟨#[]⟩, .bool false, .slice a5 (listF (nx t) 0).length k5, .slice none 0 0, .string ⟨#[]⟩] from hq5.set 9 _)
      have HM6 := Lib.hid (row_set (k := 9) (u := .slice a5 (listF (nx t) 0).length k5) hm5' hq5.q)
      clear c4 hm5 hm5' hs5 ho5 hq5 H4
      go_upto_region 15 with fail
      generalize w5.setCell ⟨Q, 9, none⟩ (.slice a5 (listF (nx t) 0).length k5) = w6 at *
      clear e4 f4
      have c6 := slist g (n3 t) 1 w6 H6.out.sb (by decide) (by decide)
      go_wp2_with fail
      refine Calls.mono c6 ?_
      rintro e w7 ⟨v7, rfl, hm7, hs7, ho7⟩
      obtain ⟨a7, k7, rfl, -, -⟩ := (SR.owns hm7).form
      have hm7' := own_baseS hm7 H6.out.only.size
      have hM7 := row_only HM6.out H6.out.sb ho7
      have hq7 := H6.out.call hs7 ho7
      have e6 := cellG hq7.q 10 (v := .slice none 0 0) rfl
      have f6 := frzG hq7.q 10
      have H8 := Lib.hid (show QS g w.heap.size Q (nx (nx (n3 t))) w (w7.setCell ⟨Q, 10, none⟩ (.slice a7 (listF (n3 t) 1).length k7)) #[.int .i64 1, .int .i64 (5 + bl t 2), .int .i64 0, .int .i64 0, .int .i64 0, .int .i64 0, .int .i64 0, .string ⟨#[]⟩, .bool false, .slice a5 (listF (nx t) 0).length k5, .slice a7 (listF (n3 t) 1).length k7, .string ⟨#[]⟩] from hq7.set 10 _)
      have HM8 := Lib.hid (row_set (k := 10) (u := .slice a7 (listF (n3 t) 1).length k7) hM7 hq7.q)
      have HC8 := Lib.hid (row_set (k := 10) (u := .slice a7 (listF (n3 t) 1).length k7) hm7' hq7.q)
      clear c6 hm7 hm7' hM7 hs7 ho7 hq7 H6 HM6
      go_wp2_with fail
      go_meet
      exact Lib.hid ⟨_, _, H8.out, HM8.out, HC8.out⟩
    · have H2 := H1
      clear H1
      have c2 := sgate g t w2 H2.out.sb
      go_wp2_with fail
      refine Calls.mono c2 ?_
      rintro e w3 ⟨rfl, hw3⟩
      have hq3 := H2.out.call (H2.out.sb.bl hw3).1 (H2.out.sb.bl hw3).2
      have e2 := cellG hq3.q 1 (v := .int .i64 0) rfl
      have f2 := frzG hq3.q 1
      have H4 := Lib.hid (show QS g w.heap.size Q (nx (t)) w (w3.setCell ⟨Q, 1, none⟩ (.int .i64 (5 + bl t 2))) #[.int .i64 2, .int .i64 (5 + bl t 2), .int .i64 0, .int .i64 0, .int .i64 0, .int .i64 0, .int .i64 0, .string ⟨#[]⟩, .bool false, .slice none 0 0, .slice none 0 0, .string ⟨#[]⟩] from hq3.set 1 _)
      clear c2 hw3 hq3 H2
      go_upto_region 18 with fail
      generalize w3.setCell ⟨Q, 1, none⟩ (.int .i64 (5 + bl t 2)) = w4 at *
      clear e2 f2
      have c4 := sbelow g (nx t) 64 w4 H4.out.sb (by decide) (by decide)
      go_wp2_with fail
      refine Calls.mono c4 ?_
      rintro e w5 ⟨rfl, hw5⟩
      have hq5 := H4.out.call (H4.out.sb.bl hw5).1 (H4.out.sb.bl hw5).2
      have e4 := cellG hq5.q 2 (v := .int .i64 0) rfl
      have f4 := frzG hq5.q 2
      have H6 := Lib.hid (show QS g w.heap.size Q (nx (nx t)) w (w5.setCell ⟨Q, 2, none⟩ (.int .i64 (bl (nx t) 64))) #[.int .i64 2, .int .i64 (5 + bl t 2), .int .i64 (bl (nx t) 64), .int .i64 0, .int .i64 0, .int .i64 0, .int .i64 0, .string ⟨#[]⟩, .bool false, .slice none 0 0, .slice none 0 0, .string ⟨#[]⟩] from hq5.set 2 _)
      clear c4 hw5 hq5 H4
      go_wp2_with fail
      go_meet
      exact Lib.hid (AQ.plain (r := actK 2 t b) H6.out rfl rfl)
    · have H2 := H1
      clear H1
      have c2 := sbelow g (t) 400 w2 H2.out.sb (by decide) (by decide)
      go_wp2_with fail
      refine Calls.mono c2 ?_
      rintro e w3 ⟨rfl, hw3⟩
      have hq3 := H2.out.call (H2.out.sb.bl hw3).1 (H2.out.sb.bl hw3).2
      have e2 := cellG hq3.q 2 (v := .int .i64 0) rfl
      have f2 := frzG hq3.q 2
      have H4 := Lib.hid (show QS g w.heap.size Q (nx (t)) w (w3.setCell ⟨Q, 2, none⟩ (.int .i64 (bl t 400))) #[.int .i64 3, .int .i64 0, .int .i64 (bl t 400), .int .i64 0, .int .i64 0, .int .i64 0, .int .i64 0, .string ⟨#[]⟩, .bool false, .slice none 0 0, .slice none 0 0, .string ⟨#[]⟩] from hq3.set 2 _)
      clear c2 hw3 hq3 H2
      go_wp2_with fail
      go_meet
      exact Lib.hid (AQ.plain (r := actK 3 t b) H4.out rfl rfl)
    · have H2 := H1
      clear H1
      have c2 := sbelow g (t) 400 w2 H2.out.sb (by decide) (by decide)
      go_wp2_with fail
      refine Calls.mono c2 ?_
      rintro e w3 ⟨rfl, hw3⟩
      have hq3 := H2.out.call (H2.out.sb.bl hw3).1 (H2.out.sb.bl hw3).2
      have e2 := cellG hq3.q 2 (v := .int .i64 0) rfl
      have f2 := frzG hq3.q 2
      have H4 := Lib.hid (show QS g w.heap.size Q (nx (t)) w (w3.setCell ⟨Q, 2, none⟩ (.int .i64 (bl t 400))) #[.int .i64 4, .int .i64 0, .int .i64 (bl t 400), .int .i64 0, .int .i64 0, .int .i64 0, .int .i64 0, .string ⟨#[]⟩, .bool false, .slice none 0 0, .slice none 0 0, .string ⟨#[]⟩] from hq3.set 2 _)
      clear c2 hw3 hq3 H2
      go_wp2_with fail
      go_meet
      exact Lib.hid (AQ.plain (r := actK 4 t b) H4.out rfl rfl)
    · have H2 := H1
      clear H1
      have c2 := sbelow g (t) 400 w2 H2.out.sb (by decide) (by decide)
      go_wp2_with fail
      refine Calls.mono c2 ?_
      rintro e w3 ⟨rfl, hw3⟩
      have hq3 := H2.out.call (H2.out.sb.bl hw3).1 (H2.out.sb.bl hw3).2
      have e2 := cellG hq3.q 2 (v := .int .i64 0) rfl
      have f2 := frzG hq3.q 2
      have H4 := Lib.hid (show QS g w.heap.size Q (nx (t)) w (w3.setCell ⟨Q, 2, none⟩ (.int .i64 (bl t 400))) #[.int .i64 5, .int .i64 0, .int .i64 (bl t 400), .int .i64 0, .int .i64 0, .int .i64 0, .int .i64 0, .string ⟨#[]⟩, .bool false, .slice none 0 0, .slice none 0 0, .string ⟨#[]⟩] from hq3.set 2 _)
      clear c2 hw3 hq3 H2
      go_wp2_with fail
      go_meet
      exact Lib.hid (AQ.plain (r := actK 5 t b) H4.out rfl rfl)
    · have H2 := H1
      clear H1
      have cl := sletters g t w2 H2.out.sb
      obtain ⟨D, hD⟩ : ∃ D, letF t = D := ⟨_, rfl⟩
      have hDs : D.size = 32 := by rw [← hD]; exact letL_len t 32 (Nat.le_refl _)
      rw [hD] at cl
      have HD := Lib.hid hD
      clear hD
      go_wp2_with fail
      refine Calls.mono cl ?_
      rintro e w3 ⟨rfl, hs3, ho3⟩
      have H4 := Lib.hid (H2.out.call hs3 ho3)
      clear cl hs3 ho3 H2
      have c4 := sbelow g (stN t 32) 8 w3 H4.out.sb (by decide) (by decide)
      obtain ⟨b1, b2⟩ := bl_range (stN t 32) (show (1 : Int) ≤ 8 by decide)
      obtain ⟨q, hq⟩ : ∃ q, bl (stN t 32) 8 = q := ⟨_, rfl⟩
      rw [hq] at c4 b1 b2
      have HQ := Lib.hid hq
      clear hq
      have hqD : q ≤ (D.size : Int) := by omega
      have hqD2 : q.toNat ≤ D.size := by omega
      have hDm : (D.size : Int) ≤ 9223372036854775807 := by omega
      go_wp2_with fail
      refine Calls.mono c4 ?_
      rintro e w5 ⟨rfl, hw5⟩
      have hq5 := H4.out.call (H4.out.sb.bl hw5).1 (H4.out.sb.bl hw5).2
      have e4 := cellG hq5.q 11 (v := .string ⟨#[]⟩) rfl
      have f4 := frzG hq5.q 11
      have hLS : letS t = D.extract 0 q.toNat := by unfold letS; rw [HD.out, HQ.out]
      have H6 := Lib.hid (show QS g w.heap.size Q (nx (stN t 32)) w (w5.setCell ⟨Q, 11, none⟩ (.string (D.extract 0 q.toNat))) #[.int .i64 6, .int .i64 0, .int .i64 0, .int .i64 0, .int .i64 0, .int .i64 0, .int .i64 0, .string ⟨#[]⟩, .bool false, .slice none 0 0, .slice none 0 0, .string (letS t)] from by rw [hLS]; exact hq5.set 11 _)
      clear c4 hw5 hq5 H4 hLS
      go_wp2_with fail
      go_meet
      exact Lib.hid (AQ.plain (r := actK 6 t b) H6.out rfl rfl)
    · have H2 := H1
      clear H1
      have c2 := sbelow g (t) 7 w2 H2.out.sb (by decide) (by decide)
      go_wp2_with fail
      refine Calls.mono c2 ?_
      rintro e w3 ⟨rfl, hw3⟩
      have hq3 := H2.out.call (H2.out.sb.bl hw3).1 (H2.out.sb.bl hw3).2
      have e2 := cellG hq3.q 1 (v := .int .i64 0) rfl
      have f2 := frzG hq3.q 1
      have H4 := Lib.hid (show QS g w.heap.size Q (nx (t)) w (w3.setCell ⟨Q, 1, none⟩ (.int .i64 (bl t 7))) #[.int .i64 7, .int .i64 (bl t 7), .int .i64 0, .int .i64 0, .int .i64 0, .int .i64 0, .int .i64 0, .string ⟨#[]⟩, .bool false, .slice none 0 0, .slice none 0 0, .string ⟨#[]⟩] from hq3.set 1 _)
      clear c2 hw3 hq3 H2
      go_wp2_with fail
      go_meet
      exact Lib.hid (AQ.plain (r := actK 7 t b) H4.out rfl rfl)
    · have H2 := H1
      clear H1
      have c2 := sbelow g (t) 5 w2 H2.out.sb (by decide) (by decide)
      go_wp2_with fail
      refine Calls.mono c2 ?_
      rintro e w3 ⟨rfl, hw3⟩
      have hq3 := H2.out.call (H2.out.sb.bl hw3).1 (H2.out.sb.bl hw3).2
      have e2 := cellG hq3.q 1 (v := .int .i64 0) rfl
      have f2 := frzG hq3.q 1
      have H4 := Lib.hid (show QS g w.heap.size Q (nx (t)) w (w3.setCell ⟨Q, 1, none⟩ (.int .i64 (bl t 5))) #[.int .i64 8, .int .i64 (bl t 5), .int .i64 0, .int .i64 0, .int .i64 0, .int .i64 0, .int .i64 0, .string ⟨#[]⟩, .bool false, .slice none 0 0, .slice none 0 0, .string ⟨#[]⟩] from hq3.set 1 _)
      clear c2 hw3 hq3 H2
      go_wp2_with fail
      go_meet
      exact Lib.hid (AQ.plain (r := actK 8 t b) H4.out rfl rfl)
    · have H2 := H1
      clear H1
      have c2 := sbelow g (t) 7 w2 H2.out.sb (by decide) (by decide)
      go_wp2_with fail
      refine Calls.mono c2 ?_
      rintro e w3 ⟨rfl, hw3⟩
      have hq3 := H2.out.call (H2.out.sb.bl hw3).1 (H2.out.sb.bl hw3).2
      have e2 := cellG hq3.q 1 (v := .int .i64 0) rfl
      have f2 := frzG hq3.q 1
      have H4 := Lib.hid (show QS g w.heap.size Q (nx (t)) w (w3.setCell ⟨Q, 1, none⟩ (.int .i64 (bl t 7))) #[.int .i64 9, .int .i64 (bl t 7), .int .i64 0, .int .i64 0, .int .i64 0, .int .i64 0, .int .i64 0, .string ⟨#[]⟩, .bool false, .slice none 0 0, .slice none 0 0, .string ⟨#[]⟩] from hq3.set 1 _)
      clear c2 hw3 hq3 H2
      go_upto_region 28 with fail
      generalize w3.setCell ⟨Q, 1, none⟩ (.int .i64 (bl t 7)) = w4 at *
      clear e2 f2
      have c4 := sbelow g (nx t) 4 w4 H4.out.sb (by decide) (by decide)
      go_wp2_with fail
      refine Calls.mono c4 ?_
      rintro e w5 ⟨rfl, hw5⟩
      have hq5 := H4.out.call (H4.out.sb.bl hw5).1 (H4.out.sb.bl hw5).2
      have e4 := cellG hq5.q 2 (v := .int .i64 0) rfl
      have f4 := frzG hq5.q 2
      have H6 := Lib.hid (show QS g w.heap.size Q (nx (nx t)) w (w5.setCell ⟨Q, 2, none⟩ (.int .i64 (bl (nx t) 4))) #[.int .i64 9, .int .i64 (bl t 7), .int .i64 (bl (nx t) 4), .int .i64 0, .int .i64 0, .int .i64 0, .int .i64 0, .string ⟨#[]⟩, .bool false, .slice none 0 0, .slice none 0 0, .string ⟨#[]⟩] from hq5.set 2 _)
      clear c4 hw5 hq5 H4
      go_upto_region 29 with fail
      generalize w5.setCell ⟨Q, 2, none⟩ (.int .i64 (bl (nx t) 4)) = w6 at *
      clear e4 f4
      have c6 := sbelow g (nx (nx t)) 1073741824 w6 H6.out.sb (by decide) (by decide)
      go_wp2_with fail
      refine Calls.mono c6 ?_
      rintro e w7 ⟨rfl, hw7⟩
      have hq7 := H6.out.call (H6.out.sb.bl hw7).1 (H6.out.sb.bl hw7).2
      have e6 := cellG hq7.q 3 (v := .int .i64 0) rfl
      have f6 := frzG hq7.q 3
      have H8 := Lib.hid (show QS g w.heap.size Q (nx (nx (nx t))) w (w7.setCell ⟨Q, 3, none⟩ (.int .i64 (bl (nx (nx t)) 1073741824))) #[.int .i64 9, .int .i64 (bl t 7), .int .i64 (bl (nx t) 4), .int .i64 (bl (nx (nx t)) 1073741824), .int .i64 0, .int .i64 0, .int .i64 0, .string ⟨#[]⟩, .bool false, .slice none 0 0, .slice none 0 0, .string ⟨#[]⟩] from hq7.set 3 _)
      clear c6 hw7 hq7 H6
      go_wp2_with fail
      go_meet
      exact Lib.hid (AQ.plain (r := actK 9 t b) H8.out rfl rfl)
    · have H2 := H1
      clear H1
      have c2 := sbelow g (t) 7 w2 H2.out.sb (by decide) (by decide)
      go_wp2_with fail
      refine Calls.mono c2 ?_
      rintro e w3 ⟨rfl, hw3⟩
      have hq3 := H2.out.call (H2.out.sb.bl hw3).1 (H2.out.sb.bl hw3).2
      have e2 := cellG hq3.q 1 (v := .int .i64 0) rfl
      have f2 := frzG hq3.q 1
      have H4 := Lib.hid (show QS g w.heap.size Q (nx (t)) w (w3.setCell ⟨Q, 1, none⟩ (.int .i64 (bl t 7))) #[.int .i64 10, .int .i64 (bl t 7), .int .i64 0, .int .i64 0, .int .i64 0, .int .i64 0, .int .i64 0, .string ⟨#[]⟩, .bool false, .slice none 0 0, .slice none 0 0, .string ⟨#[]⟩] from hq3.set 1 _)
      clear c2 hw3 hq3 H2
      go_wp2_with fail
      go_meet
      exact Lib.hid (AQ.plain (r := actK 10 t b) H4.out rfl rfl)
    · have H2 := H1
      clear H1
      have c2 := sbelow g (t) 5 w2 H2.out.sb (by decide) (by decide)
      go_wp2_with fail
      refine Calls.mono c2 ?_
      rintro e w3 ⟨rfl, hw3⟩
      have hq3 := H2.out.call (H2.out.sb.bl hw3).1 (H2.out.sb.bl hw3).2
      have e2 := cellG hq3.q 1 (v := .int .i64 0) rfl
      have f2 := frzG hq3.q 1
      have H4 := Lib.hid (show QS g w.heap.size Q (nx (t)) w (w3.setCell ⟨Q, 1, none⟩ (.int .i64 (bl t 5))) #[.int .i64 11, .int .i64 (bl t 5), .int .i64 0, .int .i64 0, .int .i64 0, .int .i64 0, .int .i64 0, .string ⟨#[]⟩, .bool false, .slice none 0 0, .slice none 0 0, .string ⟨#[]⟩] from hq3.set 1 _)
      clear c2 hw3 hq3 H2
      go_wp2_with fail
      go_meet
      exact Lib.hid (AQ.plain (r := actK 11 t b) H4.out rfl rfl)
  case rest =>
    obtain ⟨vM, vC, hQS, hM, hC⟩ := hcut.out
    obtain ⟨wq, hwq⟩ : ∃ W, W = wc := ⟨_, rfl⟩
    subst hwq
    obtain ⟨ma, mk, rfl, -, -⟩ := (SR.owns hM).form
    obtain ⟨ca, ck, rfl, -, -⟩ := (SR.owns hC).form
    obtain ⟨r, hr⟩ : ∃ r, actK K t b = r := ⟨_, rfl⟩
    rw [hr] at hQS hM hC
    have HR := Lib.hid hr
    have HMC := Lib.hid (And.intro hM hC)
    have HQS := Lib.hid hQS
    obtain ⟨ml, hml⟩ : ∃ n, r.1.M.length = n := ⟨_, rfl⟩
    obtain ⟨cl, hcl⟩ : ∃ n, r.1.C.length = n := ⟨_, rfl⟩
    rw [hml, hcl] at hQS
    have HLN := Lib.hid (And.intro hml hcl)
    clear hcut hM hC hr hml hcl H1
    have hq := hQS.q
    unfold actC at hq
    have y0 := cellG hq 0 (v := .int .i64 r.1.k) rfl
    have y1 := cellG hq 1 (v := .int .i64 r.1.who) rfl
    have y2 := cellG hq 2 (v := .int .i64 r.1.a) rfl
    have y3 := cellG hq 3 (v := .int .i64 r.1.b) rfl
    have y4 := cellG hq 4 (v := .int .i64 r.1.aw) rfl
    have y5 := cellG hq 5 (v := .int .i64 r.1.aa) rfl
    have y6 := cellG hq 6 (v := .int .i64 r.1.al) rfl
    have y7 := cellG hq 7 (v := .string r.1.ad) rfl
    have y8 := cellG hq 8 (v := .bool r.1.sur) rfl
    have y9 := cellG hq 9 (v := .slice ma ml mk) rfl
    have y10 := cellG hq 10 (v := .slice ca cl ck) rfl
    have y11 := cellG hq 11 (v := .string r.1.S) rfl
    have z0 := cellG hQS.r 0 (v := .int .i64 0) rfl
    have g0 := frzG hQS.r 0
    have z1 := cellG hQS.r 1 (v := .int .i64 0) rfl
    have g1 := frzG hQS.r 1
    have z2 := cellG hQS.r 2 (v := .int .i64 0) rfl
    have g2 := frzG hQS.r 2
    have z3 := cellG hQS.r 3 (v := .int .i64 0) rfl
    have g3 := frzG hQS.r 3
    have z4 := cellG hQS.r 4 (v := .int .i64 0) rfl
    have g4 := frzG hQS.r 4
    have z5 := cellG hQS.r 5 (v := .int .i64 0) rfl
    have g5 := frzG hQS.r 5
    have z6 := cellG hQS.r 6 (v := .int .i64 0) rfl
    have g6 := frzG hQS.r 6
    have z7 := cellG hQS.r 7 (v := .string ⟨#[]⟩) rfl
    have g7 := frzG hQS.r 7
    have z8 := cellG hQS.r 8 (v := .bool false) rfl
    have g8 := frzG hQS.r 8
    have z9 := cellG hQS.r 9 (v := .slice none 0 0) rfl
    have g9 := frzG hQS.r 9
    have z10 := cellG hQS.r 10 (v := .slice none 0 0) rfl
    have g10 := frzG hQS.r 10
    have z11 := cellG hQS.r 11 (v := .string ⟨#[]⟩) rfl
    have g11 := frzG hQS.r 11
    clear hq hQS
    go_wp2_with fail
    have k := over12 HQS.out.r (.int .i64 r.1.k) (.int .i64 r.1.who) (.int .i64 r.1.a) (.int .i64 r.1.b) (.int .i64 r.1.aw) (.int .i64 r.1.aa) (.int .i64 r.1.al) (.string r.1.ad) (.bool r.1.sur) (.slice ma ml mk) (.slice ca cl ck) (.string r.1.S)
    have FO := Lib.hid (And.intro (only12 HQS.out.only (Nat.le_refl w.heap.size) (.int .i64 r.1.k) (.int .i64 r.1.who) (.int .i64 r.1.a) (.int .i64 r.1.b) (.int .i64 r.1.aw) (.int .i64 r.1.aa) (.int .i64 r.1.al) (.string r.1.ad) (.bool r.1.sur) (.slice ma ml mk) (.slice ca cl ck) (.string r.1.S)) (And.intro (show SB _ g r.2 from (far12 (Nat.ne_of_lt HQS.out.gR) (.int .i64 r.1.k) (.int .i64 r.1.who) (.int .i64 r.1.a) (.int .i64 r.1.b) (.int .i64 r.1.aw) (.int .i64 r.1.aa) (.int .i64 r.1.al) (.string r.1.ad) (.bool r.1.sur) (.slice ma ml mk) (.slice ca cl ck) (.string r.1.S)).trans HQS.out.sb) (And.intro (row12 HMC.out.1 HQS.out.r (.int .i64 r.1.k) (.int .i64 r.1.who) (.int .i64 r.1.a) (.int .i64 r.1.b) (.int .i64 r.1.aw) (.int .i64 r.1.aa) (.int .i64 r.1.al) (.string r.1.ad) (.bool r.1.sur) (.slice ma ml mk) (.slice ca cl ck) (.string r.1.S)) (row12 HMC.out.2 HQS.out.r (.int .i64 r.1.k) (.int .i64 r.1.who) (.int .i64 r.1.a) (.int .i64 r.1.b) (.int .i64 r.1.aw) (.int .i64 r.1.aa) (.int .i64 r.1.al) (.string r.1.ad) (.bool r.1.sur) (.slice ma ml mk) (.slice ca cl ck) (.string r.1.S)))))
    generalize ((((((((((((wq.setCell ⟨w.heap.size, 0, none⟩ (.int .i64 r.1.k)).setCell ⟨w.heap.size, 1, none⟩ (.int .i64 r.1.who)).setCell ⟨w.heap.size, 2, none⟩ (.int .i64 r.1.a)).setCell ⟨w.heap.size, 3, none⟩ (.int .i64 r.1.b)).setCell ⟨w.heap.size, 4, none⟩ (.int .i64 r.1.aw)).setCell ⟨w.heap.size, 5, none⟩ (.int .i64 r.1.aa)).setCell ⟨w.heap.size, 6, none⟩ (.int .i64 r.1.al)).setCell ⟨w.heap.size, 7, none⟩ (.string r.1.ad)).setCell ⟨w.heap.size, 8, none⟩ (.bool r.1.sur)).setCell ⟨w.heap.size, 9, none⟩ (.slice ma ml mk)).setCell ⟨w.heap.size, 10, none⟩ (.slice ca cl ck)).setCell ⟨w.heap.size, 11, none⟩ (.string r.1.S)) = wF at *
    have s0 := cellG k 0 (v := .int .i64 r.1.k) rfl
    have s1 := cellG k 1 (v := .int .i64 r.1.who) rfl
    have s2 := cellG k 2 (v := .int .i64 r.1.a) rfl
    have s3 := cellG k 3 (v := .int .i64 r.1.b) rfl
    have s4 := cellG k 4 (v := .int .i64 r.1.aw) rfl
    have s5 := cellG k 5 (v := .int .i64 r.1.aa) rfl
    have s6 := cellG k 6 (v := .int .i64 r.1.al) rfl
    have s7 := cellG k 7 (v := .string r.1.ad) rfl
    have s8 := cellG k 8 (v := .bool r.1.sur) rfl
    have s9 := cellG k 9 (v := .slice ma ml mk) rfl
    have s10 := cellG k 10 (v := .slice ca cl ck) rfl
    have s11 := cellG k 11 (v := .string r.1.S) rfl
    refine bodyPost_ret (v := .tuple #[.agg #[.int .i64 r.1.k, .int .i64 r.1.who, .int .i64 r.1.a, .int .i64 r.1.b, .int .i64 r.1.aw, .int .i64 r.1.aa, .int .i64 r.1.al, .string r.1.ad, .bool r.1.sur, .slice ma ml mk, .slice ca cl ck, .string r.1.S], .bool true]) (by simp [results, Try.results27, go_sem, s0, s1, s2, s3, s4, s5, s6, s7, s8, s9, s10, s11]) rfl ?_
    obtain ⟨rfl, rfl⟩ := HLN.out
    rw [HR.out]
    exact ⟨_, _, rfl, FO.out.2.2.1, FO.out.2.2.2, FO.out.2.1, FO.out.1⟩
end Go.Proofs.Ytfgmeeponipjeaa
