/-
  A history: told; all of it.
-/
import Derived.Test.YtadejhlljdcocaaCliB
namespace Go.Proofs.Ytadejhlljdcocaa
open Go.RowKit
open Go.Maps (Keyed)
set_option linter.unusedVariables false
set_option linter.unusedSimpArgs false

theorem hist_less {w : World} {N p b : Nat} {sv : Value} {E : List EV} {n : Nat} {op : List Int} {D : DataW Unit} {id : Int} (h : HObj w N p b sv E n n (D.del (.int .i64 id))) (hlow : N ≤ p ∧ N ≤ b) (hup : op.Pairwise (· < ·)) (hr : ∀ x ∈ op, 1 ≤ x ∧ x ≤ n) (hD : ∀ x, Maps.has D (.int .i64 x) = decide (x ∈ op)) : Hist w N p b sv E n (op.filter (fun x => x ≠ id)) := by
  refine ⟨h.obj, h.ev, ⟨_, h.map, fun x => ?_⟩, hlow, hup.filter _, fun x hx => hr x (List.mem_filter.1 hx).1⟩
  by_cases hx : x = id
  · subst hx
    rw [Maps.has_del_same]
    simp
  · rw [Maps.has_del_other (by intro e; injection e with _ e; exact hx e), hD x]
    simp [hx]
theorem lookI {w : World} {b n : Nat} {D : DataW Unit} (h : w.ownsMap Try.prog 3 plI b n D) (id : Int) (hid : (Lit.int .i64 id).wf = true) :
    ∃ c : Int, (Instr.lookup 169 (.map (some b)) (.int .i64 id) true).run Try.prog w = .ok (.tuple #[.int .i64 c, .bool (Maps.has D (.int .i64 id))]) w := by
  obtain ⟨v, ps, h1, h2⟩ := h.look_ok keyI Try.underlying169 (z := .int .i64 0) (by kernel_rfl) (plainElem_int (H := Unit) Try.underlying3 (show (Lit.int .i64 0).wf = true by decide)) (Go.Maps.keyOf_int_mk Try.underlying3 hid)
  obtain ⟨c, rfl, -, -⟩ := plainElem_int_inv Try.underlying3 h2
  exact ⟨c, h1⟩
set_option maxHeartbeats 3200000 in
set_option maxRecDepth 100000 in
/-- what nobody asked for is not told -/
theorem ctell_no (g id err : Int) (data : ByteArray) (w : World) (N p b : Nat) (sv : Value) (E : List EV) (n : Nat) (op : List Int) (h : Hist w N p b sv E n op) (hid : (Lit.int .i64 id).wf = true) (hno : id ∉ op) :
    Calls Try.prog 51 #[.pointer (some ⟨p, 0, none⟩), .int .i64 g, .agg #[.int .i64 id, .int .i64 err, .string data]] w fun e w' => e = .returned (.bool false) ∧ Below w.heap.size w w' := by
  obtain ⟨D, h0, hD⟩ := h.parts
  have hb0 := (Below.refl w.heap.size w).alloc (Nat.le_refl _) (.cells #[.int .i64 id, .int .i64 err, .string data] 99)
  have hy := heap_alloc_self w (.cells #[.int .i64 id, .int .i64 err, .string data] 99)
  have h1 := h0.below hb0
  obtain ⟨c, hlk⟩ := lookI (h1.below (below_drew' (Below.refl _ _))).map id hid
  rw [hD id, decide_eq_false hno] at hlk
  have HB := Lib.hid (below_drew' hb0)
  clear h h0 hD hb0
  go_enter Try.func51, Try.ntmps51
  go_upto_region 3 with fail
  generalize w.alloc (.cells #[.int .i64 id, .int .i64 err, .string data] 99) = w1 at *
  obtain ⟨c0, c1, c2, fz⟩ := h1.cells
  have y0 := scell0 hy 0 (v := .int .i64 id) rfl
  clear h1 hy
  go_region
  go_wp2_with fail
  go_ret
  exact ⟨rfl, HB.out⟩
set_option maxHeartbeats 3200000 in
set_option maxRecDepth 100000 in
/-- something is told -/
theorem ctell (g id err : Int) (data : ByteArray) (w : World) (N p b : Nat) (sv : Value) (E : List EV) (n : Nat) (op : List Int) (h : Hist w N p b sv E n op) (hid : (Lit.int .i64 id).wf = true) (hin : id ∈ op) (hE : E.length < 100000) (hN : N ≤ w.heap.size) :
    Calls Try.prog 51 #[.pointer (some ⟨p, 0, none⟩), .int .i64 g, .agg #[.int .i64 id, .int .i64 err, .string data]] w fun e w' =>
      e = .returned (.bool true) ∧ ∃ sv', Hist w' N p b sv' (E ++ [⟨true, id, g, 0, 0, 0, ⟨#[]⟩, false, err, data⟩]) n (op.filter (fun x => x ≠ id)) ∧ HKept w w' p b sv sv' := by
  obtain ⟨i0, hi, hz0, hz1, hz2⟩ := ev_zero
  obtain ⟨D, h0, hD⟩ := h.parts
  have HLOW := Lib.hid (And.intro h.low (And.intro h.up (And.intro h.rng hD)))
  have hb0 := (Below.refl w.heap.size w).alloc (Nat.le_refl _) (.cells #[.int .i64 id, .int .i64 err, .string data] 99)
  have hy := heap_alloc_self w (.cells #[.int .i64 id, .int .i64 err, .string data] 99)
  have h1 := h0.below hb0
  obtain ⟨c, hlk⟩ := lookI (h1.below (below_drew' (Below.refl _ _))).map id hid
  rw [hD id, decide_eq_true hin] at hlk
  have HK0 := Lib.hid (HKept.of_below (p := p) (b := b) (sv := sv) (below_drew' hb0))
  have hqb : w.heap.size ≠ b := by have := h0.map.lt; omega
  obtain ⟨m, hm⟩ : ∃ m, E.length = m := ⟨_, rfl⟩
  rw [hm] at hE
  have HM := Lib.hid hm
  have hform : ∃ a c, sv = .slice a m c := by
    obtain ⟨a, c, e, -⟩ := (SR.owns h0.ev).form
    rw [hm] at e
    exact ⟨a, c, e⟩
  obtain ⟨sa, sc, rfl⟩ := hform
  clear h h0 hD hb0 hm
  go_enter Try.func51, Try.ntmps51
  go_upto_region 3 with fail
  generalize w.alloc (.cells #[.int .i64 id, .int .i64 err, .string data] 99) = w1 at *
  obtain ⟨c0, c1, c2, fz⟩ := h1.cells
  have y0 := scell0 hy 0 (v := .int .i64 id) rfl
  have H1 := Lib.hid (And.intro (h1.below (below_drew' (Below.refl _ _))) hy)
  clear h1 hy
  go_region
  clear c0 c1 c2 fz y0 hlk
  have H1' : Hid (HObj w1.drew N p b (.slice sa m sc) E n n D ∧ w1.drew.heap[w.heap.size]? = some (.cells #[.int .i64 id, .int .i64 err, .string data] 99)) := Lib.hid ⟨H1.out.1, H1.out.2⟩
  clear H1
  generalize w1.drew = W1 at *
  obtain ⟨d0, d1, d2, fz2⟩ := H1'.out.1.cells
  have y0 := scell0 H1'.out.2 0 (v := .int .i64 id) rfl
  have hb3 : Below W1.heap.size W1 W1.drew := below_drew' (Below.refl _ _)
  obtain ⟨W3, hrun, hM3, ht3⟩ := (H1'.out.1.below hb3).map.drop keyI Try.underlying169 (Go.Maps.keyOf_int_mk Try.underlying3 hid) 0
  have hg3 := ht3.grown
  have H3 := Lib.hid (And.intro ((H1'.out.1.below hb3).turn hM3 hg3) (And.intro ((hg3.block w.heap.size (by have := lt_heap H1'.out.2; simpa using this) (fun e => hqb (Option.some.inj e))).trans H1'.out.2) ((HK0.out.trans (HKept.of_below hb3)).trans (hk_map hg3))))
  clear hM3 hg3 hb3 ht3
  go_upto_region 6 with fail
  go_region
  clear d0 d1 d2 fz2 hrun y0
  obtain ⟨d0, d1, d2, fz2⟩ := H3.out.1.cells
  have hy3 := H3.out.2.1
  have a0 := scell0 hy3 0 (v := .int .i64 id) rfl
  have a1 := scell0 hy3 1 (v := .int .i64 err) rfl
  have a2 := scell0 hy3 2 (v := .string data) rfl
  have gza := (World.cell?_alloc_lt W3 (.cells #[.bool true, .int .i64 id, .int .i64 g, .int .i64 0, .int .i64 0, .int .i64 0, .string ⟨#[]⟩, .bool false, .int .i64 err, .string data] 104) ⟨p, 0, none⟩ (lt_heap H3.out.1.obj)).trans d0
  have HLD := Lib.hid (H3.out.1.below (below_drew' (Below.refl _ _)))
  have hrow := HLD.out.ev
  rw [HM.out] at hrow
  have HROW := Lib.hid hrow
  have hNW : N ≤ W3.heap.size := Nat.le_trans hN H3.out.2.2.size
  clear hy3 hrow
  go_upto_region 7 with fail
  go_region_law (first | (refine step_app2 Try.underlying94 hi hz0 hz1 hz2 rfl (by decide) rfl (.tmp 33) (.tmp 42) rfl N _ m (evC E) rfl (HROW.out.alloc _) _ 1 (evC [⟨true, id, g, 0, 0, 0, ⟨#[]⟩, false, err, data⟩]) rfl (SR.lit _ _ #[.bool true, .int .i64 id, .int .i64 g, .int .i64 0, .int .i64 0, .int .i64 0, .string ⟨#[]⟩, .bool false, .int .i64 err, .string data] 10 1 (by decide) rfl) (by decide) (evC_one _) (by unfold maxLen; omega) (by omega) (by simp; omega) ?_; intro v2 w4 own2 hg2 hn2; obtain ⟨a2', c2', rfl⟩ := owns_form3 own2; have LP := HLD.out.app (x := ⟨true, id, g, 0, 0, 0, ⟨#[]⟩, false, err, data⟩) (by rw [HM.out]; exact own2) hg2 hn2; have y2 := scell0 LP.1 0 (v := .slice sa m sc) rfl; have f2 := sfrz0 LP.1 0; have HLP := Lib.hid LP; clear LP own2 hg2 hn2))
  all_goals
    have HF := Lib.hid (And.intro HLP.out.2.1 ((H3.out.2.2.trans (HKept.of_below (below_drew' (Below.refl _ _)))).trans HLP.out.2.2))
    clear y2 f2 HLP HLD gza HROW d0 d1 d2 fz2 a0 a1 a2
    generalize w4.setCell ⟨p, 0, none⟩ (.slice a2' (m + 1) c2') = W5 at *
    go_wp2_with fail
    go_ret
    exact ⟨rfl, _, hist_less HF.out.1 HLOW.out.1 HLOW.out.2.1 HLOW.out.2.2.1 HLOW.out.2.2.2, HF.out.2⟩
end Go.Proofs.Ytadejhlljdcocaa
