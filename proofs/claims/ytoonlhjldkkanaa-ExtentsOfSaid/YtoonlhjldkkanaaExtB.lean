/-
  extent: Of, Blocks, and what they are folded with.
-/
import Derived.Test.YtoonlhjldkkanaaExt
import Derived.Test.YtoonlhjldkkanaaItsB
import Derived.Test.YtoonlhjldkkanaaNearB
namespace Go.Proofs.Ytoonlhjldkkanaa
open Go.RowKit
set_option linter.unusedVariables false
set_option linter.unusedSimpArgs false

theorem info_ext : (Try.prog.info? 88).map (fun i => (i.zero, i.size, i.bytes)) = some (some (.agg #[.int .i64 0, .int .i64 0, .int .u64 0, .int .u64 0]), 4, 32) := by kernel_rfl
theorem own_cel {w : World} {N g n c size k : Nat} {e : TypeId} {xs : List Value} (h : w.ownsRow N e size (.slice (some ⟨g, 0, none⟩) n c) n xs) (u : Value) : (w.setCell ⟨g, k, none⟩ u).ownsRow N e size (.slice (some ⟨g, 0, none⟩) n c) n (xs.set k u) := by
  rcases h.2 with ⟨q, _⟩ | ⟨g', cap, cur, q, hb, hg, hnc, hcm, hcs, ht⟩
  · cases q
  · injection q with e1 _ e2
    injection e1 with e1
    injection e1 with e1
    subst e1 e2
    refine own_of hb (heap_set_self hg k u) hnc hcm (by simpa using hcs) (by rw [List.length_set]; exact h.1) ?_
    rw [Array.toList_setIfInBounds, List.take_set, ht]
theorem own_froz {w : World} {N g n c size k : Nat} {e : TypeId} {xs : List Value} (h : w.ownsRow N e size (.slice (some ⟨g, 0, none⟩) n c) n xs) : w.frozen? ⟨g, k, none⟩ = false := by
  rcases h.2 with ⟨q, _⟩ | ⟨g', cap, cur, q, hb, hg, _⟩
  · cases q
  · injection q with e1 _ e2
    injection e1 with e1
    injection e1 with e1
    subst e1
    simp [World.frozen?, hg]
theorem own_drewN {w : World} {N n size : Nat} {e : TypeId} {v : Value} {xs : List Value} (t : Nat) (h : w.ownsRow N e size v n xs) : (w.drewN t).ownsRow N e size v n xs := h
theorem ext_lit (h : HI) (w : World) : SR (w.alloc (.cells #[.int .i64 h.b, .int .i64 1, .int .u64 h.v, .int .u64 h.v] 88)) (.slice (some ⟨w.heap.size, 0, none⟩) 1 1) 4 1 (eCells [newE h]) := SR.lit w 88 #[.int .i64 h.b, .int .i64 1, .int .u64 h.v, .int .u64 h.v] 4 1 (by decide) rfl
theorem owns_ext {w' : World} {N : Nat} {v' : Value} {L : List EX} {x : EX} (h : w'.ownsRow N 88 4 v' (L.length + 1) (eCells L ++ eCells [x])) : w'.ownsRow N 88 4 v' (L ++ [x]).length (eCells (L ++ [x])) := by
  rw [eCells_append, List.length_append]
  exact h
theorem app_bel {N : Nat} {w wr w2 : World} {ob : Obj} {o : Value} {n size : Nat} {e : TypeId} {xs : List Value} (hb : Below N w wr) (hN : N ≤ wr.heap.size) (ho : wr.ownsRow N e size o n xs) (hg : (wr.alloc ob).grownBy w2 o.ownBlock) : Below N w w2 :=
  below_app (hb.alloc hN ob) hg (ho.alloc ob) (Nat.le_refl _) (by simp; omega)
set_option maxHeartbeats 3200000 in
set_option maxRecDepth 100000 in
theorem ext_clos (acc : List EX) (h : HI) (ho : OkE acc) (hg : Good h) (hl : acc.length ≤ 1000) (N : Nat) (w : World) (v : Value) (hN : N ≤ w.heap.size) (hv : w.ownsRow N 88 4 v acc.length (eCells acc)) :
    Calls Try.prog 87 #[v, .agg #[.int .i64 h.b, .int .u64 h.v, .string h.d]] w fun e w' => ∃ v', e = .returned v' ∧ w'.ownsRow N 88 4 v' (stepE acc h).length (eCells (stepE acc h)) ∧ Below N w w' := by
  obtain ⟨i0, hi, hz0, hz1, hz2⟩ := info_parts info_ext
  have hb0 := (Below.refl N w).alloc hN (.cells #[.int .i64 h.b, .int .u64 h.v, .string h.d] 58)
  have hy := heap_alloc_self w (.cells #[.int .i64 h.b, .int .u64 h.v, .string h.d] 58)
  have hv1 := hv.alloc (.cells #[.int .i64 h.b, .int .u64 h.v, .string h.d] 58)
  have hs1 : N ≤ (w.alloc (.cells #[.int .i64 h.b, .int .u64 h.v, .string h.d] 58)).heap.size := by simp; omega
  have hbw := wf_le hg.ok.b
  have hb64 := hg.2.1
  have hb00 := hg.1
  have HB0 := Lib.hid hb0
  have HV := Lib.hid hv1
  have HV0 := Lib.hid hv
  have hob : ∀ k, v.ownBlock = some k → k < w.heap.size := fun k e => (hv.lt k e).2
  have HOB := Lib.hid hob
  rcases acc_cases acc with rfl | ⟨A, e, rfl⟩
  · rw [step_nil]
    obtain ⟨va, vc, rfl, -, -⟩ := (SR.owns hv).form
    clear hv hv1 hb0 hob
    go_enter Try.func87, Try.ntmps87
    go_upto_region 1 with fail
    generalize w.alloc (.cells #[.int .i64 h.b, .int .u64 h.v, .string h.d] 58) = w1 at *
    obtain ⟨d0, d1, d2⟩ := held_at hy
    clear hy
    go_upto_region 2 with fail
    go_cut [27] (fun s wx => s = .bool true ∧ ∃ t, wx = w1.drewN t)
    case first =>
      go_quiet (fail)
      go_wp2_with fail
      go_meet
      exact ⟨rfl, _, rfl⟩
    case rest =>
      obtain ⟨rfl, t, rfl⟩ := hcut
      have e0 : (w1.drewN t).cell? ⟨w.heap.size, 0, none⟩ = some (.int .i64 h.b) := d0
      have e1 : (w1.drewN t).cell? ⟨w.heap.size, 1, none⟩ = some (.int .u64 h.v) := d1
      have HVD := Lib.hid (own_drewN t HV.out)
      have HBD := Lib.hid (below_drewN' HB0.out t)
      have hsd : N ≤ (w1.drewN t).heap.size := hs1
      clear d0 d1 d2
      generalize w1.drewN t = w2 at *
      go_wp2_with (at_builtin; refine wp_app Try.underlying85 hi hz0 hz1 hz2 rfl (by decide) rfl (.tmp 28) (.tmp 38) rfl N _ 0 [] rfl (HVD.out.alloc _) _ 1 (eCells [newE h]) rfl (ext_lit h _) ?c1 ?c2 ?c3 ?c4 ?_)
      case c1 => exact eCells_one _
      case c2 => decide
      case c3 => decide
      case c4 => first | omega | (simp; omega)
      intro v' w9 hown hgr
      have HO := Lib.hid (owns_ext (L := []) hown)
      have HBF := Lib.hid (app_bel HBD.out hsd HVD.out hgr)
      clear hown hgr
      go_wp2_with fail
      go_ret
      exact ⟨_, rfl, HO.out, HBF.out⟩
  · have he := ho e (by simp)
    have hlen : (A ++ [e]).length = A.length + 1 := by simp
    obtain ⟨g, cap, cur, rfl, hNg, hgc, hnc, hcm, -, -⟩ := hv.2.resolve_left (fun q => by simp at q)
    unfold maxLen at hcm
    have HSR := Lib.hid (SR.owns hv1)
    obtain ⟨n, hn⟩ : ∃ n, A.length = n := ⟨_, rfl⟩
    rw [hn] at hlen
    have hx0 : (A ++ [e])[n]? = some e := by rw [← hn]; simp
    obtain ⟨g', off, hg', -, c0, c1, c2, c3⟩ := sr_ext HSR.out n e hx0
    injection hg' with hg'
    injection hg' with q1 q2
    subst q1 q2
    rw [Nat.zero_add] at c0 c1 c2 c3
    have hgw : g < w.heap.size := hob g rfl
    rw [hlen] at HV hnc hl ⊢
    have HSET := Lib.hid (eCells_set A)
    rw [hn] at HSET
    have HNA := Lib.hid hn
    have hn0 : (0 : Int) ≤ n := by omega
    have hnl : ¬ (n : Int) < 0 := by omega
    have hnd : decide ((n : Int) < 0) = false := decide_eq_false hnl
    have hn1 : (n : Int) < (n + 1 : Nat) := by omega
    have hnw : IntKind.i64.wrap (((n + 1 : Nat) : Int) - 1) = n := by rw [IntKind.wrap_i64]; omega
    clear hv hv1 hb0 hob ho hx0 HSR hgc hn
    by_cases q : e.f + e.n = h.b
    · rw [step_join q]
      have hwq : IntKind.i64.wrap (e.f + e.n) = e.f + e.n := by rw [IntKind.wrap_i64]; omega
      have hwn : IntKind.i64.wrap (e.n + 1) = e.n + 1 := by rw [IntKind.wrap_i64]; omega
      have hq1 : ((e.f + e.n) == h.b) = true := by simp [q]
      have hq2 : ((e.f + e.n) != h.b) = false := by simp [q]
      have HQ := Lib.hid q
      have HGL : Hid ((A ++ [grow e h]).length = n + 1) := Lib.hid (by simp [HNA.out])
      clear q
      go_enter Try.func87, Try.ntmps87
      go_upto_region 1 with fail
      generalize w.alloc (.cells #[.int .i64 h.b, .int .u64 h.v, .string h.d] 58) = w1 at *
      obtain ⟨d0, d1, d2⟩ := held_at hy
      have HY := Lib.hid hy
      clear hy
      go_upto_region 2 with fail
      go_cut [27] (fun s wx => s = .bool false ∧ ∃ t, wx = w1.drewN t)
      case first =>
        go_quiet (fail)
        go_wp2_with fail
        go_meet
        exact ⟨by simp [HQ.out], _, rfl⟩
      case rest =>
        obtain ⟨rfl, t, rfl⟩ := hcut
        have HVD := Lib.hid (own_drewN t HV.out)
        have HBD := Lib.hid (below_drewN' HB0.out t)
        have c1' : (w1.drewN t).cell? ⟨g, n * 4 + 1, none⟩ = some (.int .i64 e.n) := c1
        have hYg : w.heap.size ≠ g := by omega
        have HY2 : Hid ((w1.drewN t).heap[w.heap.size]? = some (.cells #[.int .i64 h.b, .int .u64 h.v, .string h.d] 58)) := Lib.hid HY.out
        clear d0 d1 d2 c0 c1 c2 c3
        generalize w1.drewN t = w2 at *
        have f1 := own_froz (k := n * 4 + 1) HVD.out
        have ho3 := own_cel (k := n * 4 + 1) HVD.out (.int .i64 (e.n + 1))
        rw [(HSET.out e).1] at ho3
        have hb3 := HBD.out.setCell (p := ⟨g, n * 4 + 1, none⟩) hNg (.int .i64 (e.n + 1))
        have y3 : (w2.setCell ⟨g, n * 4 + 1, none⟩ (.int .i64 (e.n + 1))).heap[w.heap.size]? = some (.cells #[.int .i64 h.b, .int .u64 h.v, .string h.d] 58) := (heap_setCell_other _ _ _ _ hYg).trans HY2.out
        have HO3 := Lib.hid ho3
        have HB3 := Lib.hid hb3
        clear ho3 hb3
        go_upto_region 6 with fail
        generalize w2.setCell ⟨g, n * 4 + 1, none⟩ (.int .i64 (e.n + 1)) = w3 at *
        obtain ⟨d0, d1, d2⟩ := held_at y3
        have hx3 : (A ++ [(⟨e.f, e.n + 1, e.lo, e.hi⟩ : EX)])[n]? = some ⟨e.f, e.n + 1, e.lo, e.hi⟩ := by rw [← HNA.out]; simp
        have hs3 : SR w3 (.slice (some ⟨g, 0, none⟩) (n + 1) cap) 4 (n + 1) (eCells (A ++ [⟨e.f, e.n + 1, e.lo, e.hi⟩])) := SR.owns HO3.out
        obtain ⟨g', off, hg', -, -, -, c2, c3⟩ := sr_ext hs3 n _ hx3
        injection hg' with hg'
        injection hg' with q1 q2
        subst q1 q2
        rw [Nat.zero_add] at c2 c3
        have f2 := own_froz (k := n * 4 + 2) HO3.out
        have ho4 := own_drewN 1 (own_cel (k := n * 4 + 2) HO3.out (.int .u64 (min e.lo h.v)))
        rw [(HSET.out _).2.1, show ∀ x : World, x.drewN 1 = x.drew from fun _ => rfl] at ho4
        have hb4 := below_drew' (HB3.out.setCell (p := ⟨g, n * 4 + 2, none⟩) hNg (.int .u64 (min e.lo h.v)))
        have y4 : ((w3.setCell ⟨g, n * 4 + 2, none⟩ (.int .u64 (min e.lo h.v))).drew).heap[w.heap.size]? = some (.cells #[.int .i64 h.b, .int .u64 h.v, .string h.d] 58) := (heap_setCell_other _ _ _ _ hYg).trans y3
        have HO4 := Lib.hid ho4
        have HB4 := Lib.hid hb4
        clear hs3 ho4 hb4 hx3 c1' f1
        go_still_tail 11, (by kernel_rfl)
        change wpList _ _ _ _ _ w3.drew
        go_upto_region 7 with fail
        clear d0 d1 d2 c2 c3 f2 y3
        generalize (w3.setCell ⟨g, n * 4 + 2, none⟩ (.int .u64 (min e.lo h.v))).drew = w4 at *
        obtain ⟨d0, d1, d2⟩ := held_at y4
        have hx4 : (A ++ [(⟨e.f, e.n + 1, min e.lo h.v, e.hi⟩ : EX)])[n]? = some ⟨e.f, e.n + 1, min e.lo h.v, e.hi⟩ := by rw [← HNA.out]; simp
        have hs4 : SR w4 (.slice (some ⟨g, 0, none⟩) (n + 1) cap) 4 (n + 1) (eCells (A ++ [⟨e.f, e.n + 1, min e.lo h.v, e.hi⟩])) := SR.owns HO4.out
        obtain ⟨g', off, hg', -, -, -, -, c3⟩ := sr_ext hs4 n _ hx4
        injection hg' with hg'
        injection hg' with q1 q2
        subst q1 q2
        rw [Nat.zero_add] at c3
        have f3 := own_froz (k := n * 4 + 3) HO4.out
        have ho5 := own_drewN 1 (own_cel (k := n * 4 + 3) HO4.out (.int .u64 (max e.hi h.v)))
        rw [(HSET.out _).2.2, show ∀ x : World, x.drewN 1 = x.drew from fun _ => rfl] at ho5
        have HO5 := Lib.hid ho5
        have HB5 := Lib.hid (below_drew' (HB4.out.setCell (p := ⟨g, n * 4 + 3, none⟩) hNg (.int .u64 (max e.hi h.v))))
        clear hs4 ho5 hx4 y4
        go_still_tail 11, (by kernel_rfl)
        change wpList _ _ _ _ _ w4.drew
        go_wp2_with fail
        go_ret
        exact ⟨_, rfl, by first | (rw [HGL.out]; exact HO5.out) | (rw [HNA.out]; exact HO5.out), HB5.out⟩
    · rw [step_new q]
      have hwq : IntKind.i64.wrap (e.f + e.n) = e.f + e.n := by rw [IntKind.wrap_i64]; omega
      have hq1 : ((e.f + e.n) == h.b) = false := by simp [q]
      have hq2 : ((e.f + e.n) != h.b) = true := by simp [q]
      have HQ := Lib.hid q
      clear q
      go_enter Try.func87, Try.ntmps87
      go_upto_region 1 with fail
      generalize w.alloc (.cells #[.int .i64 h.b, .int .u64 h.v, .string h.d] 58) = w1 at *
      obtain ⟨d0, d1, d2⟩ := held_at hy
      clear hy
      go_upto_region 2 with fail
      go_cut [27] (fun s wx => s = .bool true ∧ ∃ t, wx = w1.drewN t)
      case first =>
        go_quiet (fail)
        go_wp2_with fail
        go_meet
        exact ⟨by first | rfl | simp [HQ.out], _, rfl⟩
      case rest =>
        obtain ⟨rfl, t, rfl⟩ := hcut
        have e0 : (w1.drewN t).cell? ⟨w.heap.size, 0, none⟩ = some (.int .i64 h.b) := d0
        have e1 : (w1.drewN t).cell? ⟨w.heap.size, 1, none⟩ = some (.int .u64 h.v) := d1
        have HVD := Lib.hid (own_drewN t HV.out)
        have HBD := Lib.hid (below_drewN' HB0.out t)
        have hsd : N ≤ (w1.drewN t).heap.size := hs1
        clear d0 d1 d2 c0 c1 c2 c3
        generalize w1.drewN t = w2 at *
        go_wp2_with (at_builtin; refine wp_app Try.underlying85 hi hz0 hz1 hz2 rfl (by decide) rfl (.tmp 28) (.tmp 38) rfl N _ (n + 1) _ rfl (HVD.out.alloc _) _ 1 (eCells [newE h]) rfl (ext_lit h _) ?c1 ?c2 ?c3 ?c4 ?_)
        case c1 => exact eCells_one _
        case c2 => unfold maxLen; omega
        case c3 => omega
        case c4 => first | omega | (simp; omega)
        intro v' w9 hown hgr
        have HO := Lib.hid (owns_ext (L := A ++ [e]) (by rw [List.length_append, HNA.out]; exact hown))
        have HBF := Lib.hid (app_bel HBD.out hsd HVD.out hgr)
        clear hown hgr
        go_wp2_with fail
        go_ret
        exact ⟨_, rfl, HO.out, HBF.out⟩
set_option maxHeartbeats 1600000 in
set_option maxRecDepth 100000 in
/-- extent.Of -/
theorem ext_of (l : List HI) (hok : ∀ x ∈ l, Ok x) (w : World) (v : Value) (hv : SR w v 3 l.length (hCells l)) :
    Calls Try.prog 57 #[v] w fun e w' => ∃ v', e = .returned v' ∧ SR w' v' 4 (extL (putAll [] l)).length (eCells (extL (putAll [] l))) ∧ Below w.heap.size w w' := by
  have ci := iof l hok w v hv
  have HS := Lib.hid (srt_putAll Srt.nil hok)
  obtain ⟨a, cap, rfl, hlc, hcm⟩ := hv.form
  obtain ⟨L, hL⟩ : ∃ L, putAll [] l = L := ⟨_, rfl⟩
  rw [hL] at ci HS ⊢
  clear hv hok hL
  have cf : ∀ (w : World) (v : Value), SR w v 3 L.length (hCells L) → Calls Try.prog 86 #[v, .slice none 0 0, .func (.func 87) #[] #[]] w fun e w' => ∃ v', e = .returned v' ∧ w'.ownsRow w.heap.size 88 4 v' (extL L).length (eCells (extL L)) ∧ Below w.heap.size w w' := by
    intro w v hv
    obtain ⟨a, cap, rfl, hlc, hcm⟩ := hv.form
    unfold maxLen at hcm
    have eg : ∀ args w, (callFunc 87 args).run Try.prog w = .ok (.enter 87 args) w := fun _ _ => by rfl
    have HV := Lib.hid hv
    clear hv
    go_enter Try.func86, Try.ntmps86
    go_wp2_with fail
    go_loopw [1, 11] (fun o i wr => ∃ j : Nat, j ≤ L.length ∧ i = .int .i64 j ∧ Hid (wr.ownsRow w.heap.size 88 4 o (extL (L.take j)).length (eCells (extL (L.take j))) ∧ Below w.heap.size w wr)) (fun _ i _ => L.length - (intOf i).toNat)
    case atStart => exact ⟨0, Nat.zero_le _, rfl, Lib.hid ⟨World.ownsRow_nil _ _ _ _, Below.refl _ _⟩⟩
    case round =>
      obtain ⟨j, hj, rfl, HL⟩ := hrel
      by_cases hlt : j < L.length
      · obtain ⟨x, hx⟩ : ∃ x, L[j]? = some x := ⟨_, List.getElem?_eq_getElem hlt⟩
        obtain ⟨b, off, rfl, -, c0, c1, c2⟩ := sr_held (HV.out.below HL.out.2) j x hx
        have hb1 := (Below.refl wr.heap.size wr).alloc (Nat.le_refl _) (.cells #[.int .i64 x.b, .int .u64 x.v, .string x.d] 58)
        have hy := heap_alloc_self wr (.cells #[.int .i64 x.b, .int .u64 x.v, .string x.d] 58)
        have HX := Lib.hid (ext_take hx)
        have cc := ext_clos (extL (L.take j)) x (ok_ext (fun y hy => HS.out.all y (List.mem_of_mem_take hy))) (HS.out.all x (List.mem_of_getElem? hx)) (by have := ext_len (L.take j); have := HS.out.len; rw [List.length_take] at *; omega) w.heap.size _ _ (Nat.le_trans HL.out.2.size hb1.size) (owns_below HL.out.1 hb1)
        have HB := Lib.hid (HL.out.2.trans (hb1.mono HL.out.2.size))
        clear hx hb1
        go_upto_region 4 with fail
        generalize wr.alloc (.cells #[.int .i64 x.b, .int .u64 x.v, .string x.d] 58) = w2 at *
        obtain ⟨d0, d1, d2⟩ := held_at hy
        clear c0 c1 c2 hy
        go_wp2_with fail
        refine Calls.mono cc ?_
        rintro e w3 ⟨v', rfl, ho3, hb3⟩
        have HO3 := Lib.hid ho3
        have HB3 := Lib.hid (HB.out.trans hb3)
        clear ho3 hb3 cc d0 d1 d2
        go_wp2_with fail
        go_roundw
        case rel => exact ⟨j + 1, by omega, by go_num, Lib.hid ⟨by rw [HX.out]; exact HO3.out, HB3.out⟩⟩
        case measure => simp [intOf]; omega
      · obtain rfl : j = L.length := by omega
        have HQ := HL.out
        rw [List.take_length] at HQ
        have HQ' := Lib.hid HQ
        clear HQ
        go_wp2_with fail
        go_ret
        exact ⟨_, rfl, HQ'.out.1, HQ'.out.2⟩
  go_enter Try.func57, Try.ntmps57
  go_wp2_with fail
  refine Calls.mono ci ?_
  rintro e w1 ⟨rfl, sv, hs1, hb1⟩
  have ca := sall _ _ _ _ _ hs1
  have HB1 := Lib.hid hb1
  clear hs1 hb1 ci
  go_wp2_with fail
  refine Calls.mono ca ?_
  rintro e w2 ⟨v2, rfl, ho2, hb2⟩
  have c2 := cf w2 v2 (SR.owns ho2)
  have HB2 := Lib.hid (HB1.out.trans (hb2.mono HB1.out.size))
  clear ho2 hb2 ca cf
  go_wp2_with fail
  refine Calls.mono c2 ?_
  rintro e w3 ⟨v3, rfl, ho3, hb3⟩
  have HR3 := Lib.hid (SR.owns ho3)
  have HB3 := Lib.hid (HB2.out.trans (hb3.mono HB2.out.size))
  clear ho3 hb3 c2
  go_wp2_with fail
  go_ret
  exact ⟨_, rfl, HR3.out, HB3.out⟩
set_option maxHeartbeats 1600000 in
set_option maxRecDepth 100000 in
/-- extent.Blocks -/
theorem ext_blocks (l : List EX) (ho : OkE l) (hl : l.length ≤ 1000) (w : World) (v : Value) (hv : SR w v 4 l.length (eCells l)) :
    Calls Try.prog 59 #[v] w fun e w' => e = .returned (.int .i64 (sumE l)) ∧ Below w.heap.size w w' := by
  have cf : Calls Try.prog 88 #[v, .int .i64 0, .func (.func 89) #[] #[]] w fun e w' => e = .returned (.int .i64 (sumE l)) ∧ Below w.heap.size w w' := by
    obtain ⟨a, cap, rfl, hlc, hcm⟩ := hv.form
    unfold maxLen at hcm
    have eg : ∀ args w, (callFunc 89 args).run Try.prog w = .ok (.enter 89 args) w := fun _ _ => by rfl
    have HV := Lib.hid hv
    have HO := Lib.hid ho
    clear hv ho
    go_enter Try.func88, Try.ntmps88
    go_wp2_with fail
    go_loopw [1, 11] (fun o i wr => ∃ j : Nat, j ≤ l.length ∧ i = .int .i64 j ∧ o = .int .i64 (sumE (l.take j)) ∧ Hid (Below w.heap.size w wr)) (fun _ i _ => l.length - (intOf i).toNat)
    case atStart => exact ⟨0, Nat.zero_le _, rfl, rfl, Lib.hid (Below.refl _ _)⟩
    case round =>
      obtain ⟨j, hj, rfl, rfl, HL⟩ := hrel
      by_cases hlt : j < l.length
      · obtain ⟨x, hx⟩ : ∃ x, l[j]? = some x := ⟨_, List.getElem?_eq_getElem hlt⟩
        obtain ⟨b, off, rfl, -, c0, c1, c2, c3⟩ := sr_ext (HV.out.below HL.out) j x hx
        have hb1 := (Below.refl wr.heap.size wr).alloc (Nat.le_refl _) (.cells #[.int .i64 x.f, .int .i64 x.n, .int .u64 x.lo, .int .u64 x.hi] 88)
        have hy := heap_alloc_self wr (.cells #[.int .i64 x.f, .int .i64 x.n, .int .u64 x.lo, .int .u64 x.hi] 88)
        have HX := Lib.hid (sum_take hx)
        have hox := HO.out x (List.mem_of_getElem? hx)
        have hsb := sum_bound (l := l.take j) (fun y hy => HO.out y (List.mem_of_mem_take hy))
        have hlj : (l.take j).length ≤ 1000 := by rw [List.length_take]; omega
        obtain ⟨U, hU⟩ : ∃ U, sumE (l.take j) = U := ⟨_, rfl⟩
        rw [hU] at hsb HX
        try rw [hU]
        have hU1 : 0 ≤ U ∧ U ≤ 64000 := by omega
        have hmx : max x.n 0 = x.n := by omega
        rw [hmx] at HX
        have cc : ∀ w', Calls Try.prog 89 #[.int .i64 U, .agg #[.int .i64 x.f, .int .i64 x.n, .int .u64 x.lo, .int .u64 x.hi]] w' fun e w'' => e = .returned (.int .i64 (U + x.n)) ∧ Below w'.heap.size w' w'' := fun w' => by
          have hy := heap_alloc_self w' (.cells #[.int .i64 x.f, .int .i64 x.n, .int .u64 x.lo, .int .u64 x.hi] 88)
          have hb0 := (Below.refl w'.heap.size w').alloc (Nat.le_refl _) (.cells #[.int .i64 x.f, .int .i64 x.n, .int .u64 x.lo, .int .u64 x.hi] 88)
          have hww : IntKind.i64.wrap (U + x.n) = U + x.n := by rw [IntKind.wrap_i64]; omega
          have hx2 : x.n ≤ 64 := by omega
          go_enter Try.func89, Try.ntmps89
          go_upto_region 1 with fail
          generalize w'.alloc (.cells #[.int .i64 x.f, .int .i64 x.n, .int .u64 x.lo, .int .u64 x.hi] 88) = w2 at *
          have d1 : w2.cell? ⟨w'.heap.size, 1, none⟩ = some (.int .i64 x.n) := by simp [World.cell?, hy]
          clear hy
          go_wp2_with fail
          go_ret
          exact ⟨by first | rfl | (congr 2; omega), hb0⟩
        have HB := Lib.hid (HL.out.trans (hb1.mono HL.out.size))
        clear hx hb1 hU hsb hlj
        go_upto_region 4 with fail
        generalize wr.alloc (.cells #[.int .i64 x.f, .int .i64 x.n, .int .u64 x.lo, .int .u64 x.hi] 88) = w2 at *
        have d0 : w2.cell? ⟨wr.heap.size, 0, none⟩ = some (.int .i64 x.f) := by simp [World.cell?, hy]
        have d1 : w2.cell? ⟨wr.heap.size, 1, none⟩ = some (.int .i64 x.n) := by simp [World.cell?, hy]
        have d2 : w2.cell? ⟨wr.heap.size, 2, none⟩ = some (.int .u64 x.lo) := by simp [World.cell?, hy]
        have d3 : w2.cell? ⟨wr.heap.size, 3, none⟩ = some (.int .u64 x.hi) := by simp [World.cell?, hy]
        clear c0 c1 c2 c3 hy
        go_wp2_with fail
        refine Calls.mono (cc _) ?_
        rintro e w3 ⟨rfl, hb3⟩
        have HB3 := Lib.hid (HB.out.trans (hb3.mono HB.out.size))
        clear hb3 cc d0 d1 d2 d3
        go_wp2_with fail
        go_roundw
        case rel => exact ⟨j + 1, by omega, by go_num, by rw [HX.out], HB3⟩
        case measure => simp [intOf]; omega
      · obtain rfl : j = l.length := by omega
        rw [List.take_length]
        go_wp2_with fail
        go_ret
        exact ⟨rfl, HL.out⟩
  clear hv ho
  go_enter Try.func59, Try.ntmps59
  go_wp2_with fail
  refine Calls.mono cf ?_
  rintro e w1 ⟨rfl, hb1⟩
  have HB1 := Lib.hid hb1
  clear hb1 cf
  go_wp2_with fail
  go_ret
  exact ⟨rfl, HB1.out⟩
end Go.Proofs.Ytoonlhjldkkanaa
