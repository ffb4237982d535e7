/-
  chain: a node's blocks; New, Store, Load, All; the waking call of layer 25.
-/
import Derived.Test.YtoonlhjldkkanaaNearB
namespace Go.Proofs.Ytoonlhjldkkanaa
open Go.RowKit
set_option linter.unusedVariables false
set_option linter.unusedSimpArgs false

theorem SetAt.low {w : World} {N N' p : Nat} {v : Value} {l : List HI} (h : SetAt w N' p v l) (hN : N ≤ N') : SetAt w N p v l := ⟨Nat.le_trans hN h.1, h.2.1, own_mono h.2.2.1 hN, h.2.2.2⟩
/-- a chain at block C: its set at p -/
def chO (p : Nat) : Obj := .cells #[.pointer (some ⟨p, 0, none⟩)] 113
theorem chO_cell {w : World} {C p : Nat} (h : w.heap[C]? = some (chO p)) : w.cell? ⟨C, 0, none⟩ = some (.pointer (some ⟨p, 0, none⟩)) := obj_cell h
set_option maxHeartbeats 1600000 in
set_option maxRecDepth 100000 in
theorem cnew (l : List HI) (hok : ∀ x ∈ l, Ok x) (w : World) (v : Value) (hv : SR w v 3 l.length (hCells l)) :
    Calls Try.prog 43 #[v] w fun e w' => ∃ C sv, e = .returned (.pointer (some ⟨C, 0, none⟩)) ∧ SetAt w' w.heap.size w.heap.size sv (putAll [] l) ∧ IBlk w' w.heap.size sv C (chO w.heap.size) ∧ Below w.heap.size w w' := by
  have ci := iof l hok w v hv
  obtain ⟨a, cap, rfl, hlc, hcm⟩ := hv.form
  clear hv hok
  go_enter Try.func43, Try.ntmps43
  go_wp2_with fail
  refine Calls.mono ci ?_
  rintro e w1 ⟨rfl, sv, hs, hb⟩
  have hp := lt_heap hs.2.1
  have F := Lib.hid (show SetAt (w1.alloc (chO w.heap.size)) w.heap.size w.heap.size sv (putAll [] l) ∧ IBlk (w1.alloc (chO w.heap.size)) w.heap.size sv w1.heap.size (chO w.heap.size) ∧ Below w.heap.size w (w1.alloc (chO w.heap.size)) from
    ⟨hs.below ((Below.refl _ _).alloc (Nat.le_refl _) _), ⟨heap_alloc_self _ _, by omega, fun e => by have := (hs.2.2.1.lt _ e.symm).2; omega⟩, hb.alloc hb.size _⟩)
  clear hs hb ci hp
  go_wp2_with fail
  go_ret
  exact ⟨w1.heap.size, sv, rfl, F.out⟩
set_option maxHeartbeats 1600000 in
set_option maxRecDepth 100000 in
theorem cstore (w : World) (N p C : Nat) (v : Value) (l : List HI) (h : SetAt w N p v l) (hC : IBlk w p v C (chO p)) (x : HI) (m : Bool) (hm : MayT m x.v x.d) (hv : (Lit.int .u64 x.v).wf = true) (hd : x.d.size ≤ 40) :
    Calls Try.prog 44 #[.pointer (some ⟨C, 0, none⟩), .int .i64 x.b, .agg (itemA x.v x.d)] w fun e w' => e = .returned (.bool (putsL m l x)) ∧ ∃ v', SetAt w' N p v' (putL m l x) ∧ OKept w w' N p v v' := by
  have hNw : N ≤ w.heap.size := Nat.le_trans h.1 (Nat.le_of_lt (lt_heap h.2.1))
  have hb0 := (Below.refl w.heap.size w).alloc (Nat.le_refl _) (.cells #[.int .u64 x.v, .string x.d] 24)
  have hy := heap_alloc_self w (.cells #[.int .u64 x.v, .string x.d] 24)
  have hC1 := chO_cell (hC.go hb0).at_
  have cs := sput _ N p v l (h.below hb0).drew x m hm hv hd
  obtain ⟨q, hq⟩ : ∃ q, putsL m l x = q := ⟨_, rfl⟩
  rw [hq] at cs ⊢
  clear hq
  unfold itemA at *
  go_enter Try.func44, Try.ntmps44
  go_upto_region 1 with fail
  generalize w.alloc (.cells #[.int .u64 x.v, .string x.d] 24) = w1 at *
  obtain ⟨d0, d1, -, -⟩ := item_cells hy
  have HB := Lib.hid hb0
  clear hb0 hy hm h hC
  go_region_with (go_at_call 28; refine Calls.mono cs ?_; rintro e w4 ⟨rfl, v', hs4, hk4⟩)
  all_goals
    have H4 := Lib.hid hs4
    have K4 := Lib.hid ((OKept.of_below HB.out hNw).trans (okept_drew hk4))
    clear hs4 hk4
    go_wp2_with fail
    go_ret
    exact ⟨rfl, v', H4.out, K4.out⟩
set_option maxHeartbeats 1600000 in
set_option maxRecDepth 100000 in
theorem cload (w : World) (N p C : Nat) (v : Value) (l : List HI) (h : SetAt w N p v l) (hC : IBlk w p v C (chO p)) (b : Int) :
    Calls Try.prog 45 #[.pointer (some ⟨C, 0, none⟩), .int .i64 b] w fun e w' => e = .returned (.agg (itemA (gv (getL l b)) (gd (getL l b)))) ∧ Below w.heap.size w w' := by
  have hb0 := (Below.refl w.heap.size w).alloc (Nat.le_refl _) (.cells #[.int .u64 0, .string ⟨#[]⟩] 24)
  have hy := heap_alloc_self w (.cells #[.int .u64 0, .string ⟨#[]⟩] 24)
  have hC1 := chO_cell (hC.go hb0).at_
  have cg := sget _ N p v l (h.below hb0) b
  obtain ⟨G, hG⟩ : ∃ G, gv (getL l b) = G := ⟨_, rfl⟩
  obtain ⟨D, hD⟩ : ∃ D, gd (getL l b) = D := ⟨_, rfl⟩
  obtain ⟨q, hq⟩ : ∃ q, (getL l b).isSome = q := ⟨_, rfl⟩
  rw [hG, hD, hq] at cg
  rw [hG, hD]
  unfold itemA at *
  clear h hC hG hD hq
  go_enter Try.func45, Try.ntmps45
  go_upto_region 1 with fail
  generalize w.alloc (.cells #[.int .u64 0, .string ⟨#[]⟩] 24) = w1 at *
  go_wp2_with fail
  refine Calls.mono cg ?_
  rintro e w2 ⟨rfl, hb2⟩
  have hbb := hb0.trans (hb2.mono hb0.size)
  have y2 := below_at hb2 (lt_heap hy) hy
  have hb3 := hbb.alloc hbb.size (.cells #[.int .u64 G, .string D] 24)
  have hz := heap_alloc_self w2 (.cells #[.int .u64 G, .string D] 24)
  have y3 := alloc_far (o := .cells #[.int .u64 G, .string D] 24) y2
  clear hb0 hb2 hbb y2 cg hy hC1
  go_upto_region 4 with fail
  generalize w2.alloc (.cells #[.int .u64 G, .string D] 24) = w3 at *
  obtain ⟨d0, d1, -, -⟩ := item_cells hz
  obtain ⟨e0, e1, f0, f1⟩ := item_cells y3
  have HB3 := Lib.hid hb3
  have HY3 := Lib.hid y3
  clear hb3 hz y3
  go_wp2_with fail
  (try simp only [Exit.inBlock, Exit.then])
  obtain ⟨s0, s1⟩ := item_over HY3.out G D
  have FO := Lib.hid ((HB3.out.setCell (p := ⟨w.heap.size, 0, none⟩) (Nat.le_refl _) (.int .u64 G)).setCell (p := ⟨w.heap.size, 1, none⟩) (Nat.le_refl _) (.string D))
  generalize (w3.setCell ⟨w.heap.size, 0, none⟩ (.int .u64 G)).setCell ⟨w.heap.size, 1, none⟩ (.string D) = w5 at *
  refine bodyPost_ret (v := .agg #[.int .u64 G, .string D]) (by simp [results, Try.results45, go_sem, s0, s1]) rfl ?_
  exact ⟨rfl, FO.out⟩
theorem call_all (w : World) (N p C : Nat) (v : Value) (l : List HI) (h : SetAt w N p v l) (hC : IBlk w p v C (chO p)) :
    Calls Try.prog 46 #[.pointer (some ⟨C, 0, none⟩)] w fun e w' => ∃ v', e = .returned v' ∧ w'.ownsRow w.heap.size 58 3 v' l.length (hCells l) ∧ Below w.heap.size w w' := by
  have hC1 := chO_cell hC.at_
  have ca := sall _ _ _ _ _ h
  clear h hC
  go_enter Try.func46, Try.ntmps46
  go_wp2_with fail
  refine Calls.mono ca ?_
  rintro e w2 ⟨v', rfl, ho, hb⟩
  have HO := Lib.hid ho
  have HB := Lib.hid hb
  clear ho hb
  go_wp2_with fail
  go_ret
  exact ⟨_, rfl, HO.out, HB.out⟩
end Go.Proofs.Ytoonlhjldkkanaa
