/-
  Several texts, laid together.
-/
import Derived.Test.YtadejhlljdcocaaMg24
import Derived.Sort.OwnSortedInts
/-
  A history: made, asked, told.
-/


namespace Go.Proofs.Ytadejhlljdcocaa
open Go.RowKit
open Go.Maps (Keyed)
set_option linter.unusedVariables false
set_option linter.unusedSimpArgs false

theorem hk_set {w : World} {p b i : Nat} {sv v : Value} : HKept w (w.setCell ⟨p, i, none⟩ v) p b sv sv :=
  ⟨rfl, rfl, rfl, by simp, fun k _ h1 _ _ => heap_setCell_other _ _ _ _ h1, fun k e => .inl e⟩
theorem hk_map {w w' : World} {p b : Nat} {sv : Value} (hg : w.grownBy w' (some b)) : HKept w w' p b sv sv :=
  ⟨hg.os, hg.tape, hg.output, hg.size, fun k hk _ h2 _ => hg.block k hk (fun e => h2 (Option.some.inj e)), fun k e => .inl e⟩
theorem map_move {w w' : World} {b n : Nat} {D : DataW Unit} (h : w.ownsMap Try.prog 3 plI b n D) (e : w'.heap[b]? = w.heap[b]?) : w'.ownsMap Try.prog 3 plI b n D := by
  obtain ⟨es, clock, hb, F⟩ := h
  exact ⟨es, clock, e.trans hb, F⟩
/-- the parts of a history, whichever numbers are open -/
structure HObj (w : World) (N p b : Nat) (sv : Value) (E : List EV) (n m : Nat) (D : DataW Unit) : Prop where
  obj : w.heap[p]? = some (.cells #[sv, .int .i64 n, .map (some b)] 171)
  ev : w.ownsRow N 104 10 sv E.length (evC E)
  map : w.ownsMap Try.prog 3 plI b m D
theorem HObj.ne {w : World} {N p b : Nat} {sv : Value} {E : List EV} {n m : Nat} {D : DataW Unit} (h : HObj w N p b sv E n m D) : p ≠ b ∧ sv.ownBlock ≠ some p ∧ sv.ownBlock ≠ some b := by
  obtain ⟨es, clock, hm, -⟩ := h.map
  refine ⟨fun e => ?_, fun e => ?_, fun e => ?_⟩
  · have := h.obj; rw [e, hm] at this; cases this
  · obtain ⟨cur, hc⟩ := own_type h.ev e
    rw [h.obj] at hc
    injection hc with hc
    injection hc with _ hc
    exact absurd hc (by decide)
  · obtain ⟨cur, hc⟩ := own_type h.ev e
    rw [hm] at hc
    cases hc
theorem HObj.below {w w' : World} {N p b : Nat} {sv : Value} {E : List EV} {n m : Nat} {D : DataW Unit} (h : HObj w N p b sv E n m D) (hb : Below w.heap.size w w') : HObj w' N p b sv E n m D :=
  ⟨below_at hb (lt_heap h.obj) h.obj, owns_below h.ev hb, map_move h.map (hb.block b h.map.lt)⟩
theorem HObj.cells {w : World} {N p b : Nat} {sv : Value} {E : List EV} {n m : Nat} {D : DataW Unit} (h : HObj w N p b sv E n m D) :
    w.cell? ⟨p, 0, none⟩ = some sv ∧ w.cell? ⟨p, 1, none⟩ = some (.int .i64 n) ∧ w.cell? ⟨p, 2, none⟩ = some (.map (some b)) ∧ ∀ i, w.frozen? ⟨p, i, none⟩ = false := by
  have hc := h.obj
  exact ⟨by simp [World.cell?, hc], by simp [World.cell?, hc], by simp [World.cell?, hc], fun i => by simp [World.frozen?, hc]⟩
/-- one more was asked -/
theorem HObj.count {w : World} {N p b : Nat} {sv : Value} {E : List EV} {n m : Nat} {D : DataW Unit} (h : HObj w N p b sv E n m D) (k : Nat) : HObj (w.setCell ⟨p, 1, none⟩ (.int .i64 k)) N p b sv E k m D := by
  obtain ⟨n1, n2, n3⟩ := h.ne
  refine ⟨heap_set_self h.obj 1 (.int .i64 k), own_move h.ev fun g e => heap_setCell_other _ _ _ _ (fun q => n2 (by rw [e, q])), map_move h.map (heap_setCell_other _ _ _ _ n1.symm)⟩
/-- its map turns -/
theorem HObj.turn {w w' : World} {N p b : Nat} {sv : Value} {E : List EV} {n m m' : Nat} {D D' : DataW Unit} (h : HObj w N p b sv E n m D) (hm : w'.ownsMap Try.prog 3 plI b m' D') (hg : w.grownBy w' (some b)) : HObj w' N p b sv E n m' D' := by
  obtain ⟨n1, n2, n3⟩ := h.ne
  refine ⟨(hg.block p (lt_heap h.obj) (fun e => n1 (Option.some.inj e))).trans h.obj, own_move h.ev fun g e => hg.block g ?_ (fun q => n3 (by rw [e, q])), hm⟩
  obtain ⟨cur, hc⟩ := own_type h.ev e
  exact lt_heap hc
/-- an event more -/
theorem HObj.app {w w4 : World} {N p b : Nat} {sv v2 : Value} {E : List EV} {n m : Nat} {D : DataW Unit} {o : Obj} {x : EV} (h : HObj w N p b sv E n m D)
    (hown : w4.ownsRow N 104 10 v2 (E.length + 1) (evC E ++ evC [x])) (hg : (w.alloc o).grownBy w4 sv.ownBlock) (hn : v2.ownBlock = sv.ownBlock ∨ v2.ownBlock = some (w.alloc o).heap.size) :
    w4.heap[p]? = some (.cells #[sv, .int .i64 n, .map (some b)] 171) ∧ HObj (w4.setCell ⟨p, 0, none⟩ v2) N p b v2 (E ++ [x]) n m D ∧ HKept w (w4.setCell ⟨p, 0, none⟩ v2) p b sv v2 := by
  obtain ⟨n1, n2, n3⟩ := h.ne
  have hp := lt_heap h.obj
  have hb := h.map.lt
  have hz : (w.alloc o).heap.size = w.heap.size + 1 := by simp
  have key : ∀ k, k < w.heap.size → some k ≠ sv.ownBlock → w4.heap[k]? = w.heap[k]? := fun k hk hne => (hg.block k (by omega) hne).trans (Below.heap_alloc w o k hk)
  have h1 : w4.heap[p]? = some (.cells #[sv, .int .i64 n, .map (some b)] 171) := (key p hp (Ne.symm n2)).trans h.obj
  have hv2 : ∀ g, v2.ownBlock = some g → g ≠ p := fun g e q => by
    rcases hn with r | r
    · exact n2 (by rw [← r, e, q])
    · rw [r] at e; injection e with e; omega
  refine ⟨h1, ⟨heap_set_self h1 0 v2, ?_, map_move h.map ((heap_setCell_other _ _ _ _ n1.symm).trans (key b hb (Ne.symm n3)))⟩, ⟨hg.os, hg.tape, hg.output, ?_, fun k hk k1 k2 k3 => (heap_setCell_other _ _ _ _ k1).trans (key k hk k3), fun k e => ?_⟩⟩
  · rw [List.length_append, evC_append]
    exact own_move hown fun g e => heap_setCell_other _ _ _ _ (hv2 g e)
  · have := hg.size
    simp at this ⊢
    omega
  · rcases hn with r | r
    · rw [r] at e; exact .inl e
    · rw [r] at e; injection e with e; exact .inr (by omega)
theorem Hist.parts {w : World} {N p b : Nat} {sv : Value} {E : List EV} {n : Nat} {op : List Int} (h : Hist w N p b sv E n op) : ∃ D, HObj w N p b sv E n n D ∧ ∀ x, Maps.has D (.int .i64 x) = decide (x ∈ op) := by
  obtain ⟨D, hm, hh⟩ := h.map
  exact ⟨D, ⟨h.obj, h.ev, hm⟩, hh⟩
theorem ev_zero : ∃ i0 : TypeInfo, Try.prog.info? 104 = some i0 ∧ i0.zero = some (.agg (EV.c ⟨false, 0, 0, 0, 0, 0, ⟨#[]⟩, false, 0, ⟨#[]⟩⟩).toArray) ∧ i0.size = 10 ∧ i0.bytes = 96 := by
  have h : (Try.prog.info? 104).map (fun i => (i.zero, i.size, i.bytes)) = some (some (.agg (EV.c ⟨false, 0, 0, 0, 0, 0, ⟨#[]⟩, false, 0, ⟨#[]⟩⟩).toArray), 10, 96) := by kernel_rfl
  simp only [Option.map_eq_some_iff, Prod.mk.injEq] at h
  exact h
theorem hist_more {w : World} {N p b : Nat} {sv : Value} {E : List EV} {n k : Nat} {op : List Int} {D : DataW Unit} {y : DataW Unit} (h : HObj w N p b sv E k k (D.put (.int .i64 k) y)) (hlow : N ≤ p ∧ N ≤ b) (hup : op.Pairwise (· < ·)) (hr : ∀ x ∈ op, 1 ≤ x ∧ x ≤ n) (hD : ∀ x, Maps.has D (.int .i64 x) = decide (x ∈ op)) (hk : n + 1 = k) (hM : Maps.IsMap D) : Hist w N p b sv E k (op ++ [(k : Int)]) := by
  refine ⟨h.obj, h.ev, ⟨_, h.map, fun x => ?_⟩, hlow, ?_, fun x hx => ?_⟩
  · by_cases hx : x = k
    · subst hx
      rw [Maps.has_put_same hM (by first | trivial | decide | exact rfl)]
      simp
    · rw [Maps.has_put_other (by intro e; injection e with _ e; exact hx e), hD x]
      simp [hx]
  · refine List.pairwise_append.2 ⟨hup, List.pairwise_singleton _ _, fun x hx y hy => ?_⟩
    rw [List.mem_singleton.1 hy]
    have := hr x hx
    omega
  · rcases List.mem_append.1 hx with q | q
    · have := hr x q; omega
    · rw [List.mem_singleton.1 q]; omega
theorem scell0 {w : World} {b : Nat} {A : Array Value} {t : TypeId} {fr : Nat × Nat} (h : w.heap[b]? = some (.cells A t fr)) (i : Nat) {v : Value} (hv : A[i]? = some v) : w.cell? ⟨b, i, none⟩ = some v := by
  simp [World.cell?, h, hv]
theorem sfrz0 {w : World} {b : Nat} {A : Array Value} {t : TypeId} (h : w.heap[b]? = some (.cells A t)) (i : Nat) : w.frozen? ⟨b, i, none⟩ = false := by simp [World.frozen?, h]
theorem map_is (b : Nat) (w : World) : (binOp .eql 169 (.map (some b)) (.map none)).run Try.prog w = .ok (.bool false) w := by kernel_rfl
theorem cnew (w : World) : Calls Try.prog 49 #[] w fun e w' => ∃ p b, e = .returned (.pointer (some ⟨p, 0, none⟩)) ∧ Hist w' w.heap.size p b (.slice none 0 0) [] 0 [] ∧ Below w.heap.size w w' := by
  have hmm := @run_makeMap Try.prog
  go_enter Try.func49, Try.ntmps49
  go_wp2_with fail
  go_ret
  have hM := World.ownsMap_made (H := Unit) w Try.prog 3 plI
  have hb1 := (Below.refl w.heap.size w).alloc (Nat.le_refl _) (.map #[] 0)
  generalize hw2 : w.alloc (.map #[] 0) = w2 at *
  have hs : w2.heap.size = w.heap.size + 1 := by rw [← hw2]; simp
  rw [← hs]
  exact ⟨w2.heap.size, w.heap.size, rfl, ⟨heap_alloc_self _ _, World.ownsRow_nil _ _ _ _, ⟨_, hM.alloc _, fun x => by simp [Maps.has]⟩, by omega, List.Pairwise.nil, (by simp)⟩, hb1.alloc hb1.size _⟩
set_option maxHeartbeats 3200000 in
set_option maxRecDepth 100000 in
/-- something is asked for -/
theorem cask (g what at_ len : Int) (data : ByteArray) (sure : Bool) (w : World) (N p b : Nat) (sv : Value) (E : List EV) (n : Nat) (op : List Int) (h : Hist w N p b sv E n op) (hE : E.length < 2000) (hn : n ≤ 100000) (hN : N ≤ w.heap.size) :
    Calls Try.prog 50 #[.pointer (some ⟨p, 0, none⟩), .int .i64 g, .agg #[.int .i64 what, .int .i64 at_, .int .i64 len, .string data, .bool sure]] w fun e w' =>
      e = .returned (.int .i64 ((n + 1 : Nat) : Int)) ∧ ∃ sv', Hist w' N p b sv' (E ++ [⟨false, (n + 1 : Nat), g, what, at_, len, data, sure, 0, ⟨#[]⟩⟩]) (n + 1) (op ++ [((n + 1 : Nat) : Int)]) ∧ HKept w w' p b sv sv' := by
  obtain ⟨i0, hi, hz0, hz1, hz2⟩ := ev_zero
  obtain ⟨D, h0, hD⟩ := h.parts
  have HLOW := Lib.hid (And.intro h.low (And.intro h.up (And.intro h.rng (And.intro hD h0.map.isMap))))
  have hb0 := (Below.refl w.heap.size w).alloc (Nat.le_refl _) (.cells #[.int .i64 what, .int .i64 at_, .int .i64 len, .string data, .bool sure] 96)
  have hy := heap_alloc_self w (.cells #[.int .i64 what, .int .i64 at_, .int .i64 len, .string data, .bool sure] 96)
  have h1 := h0.below hb0
  have hqp : w.heap.size ≠ p := by have := lt_heap h0.obj; omega
  have hqb : w.heap.size ≠ b := by have := h0.map.lt; omega
  obtain ⟨m, hm⟩ : ∃ m, E.length = m := ⟨_, rfl⟩
  rw [hm] at hE
  have HM := Lib.hid hm
  have HK0 := Lib.hid (HKept.of_below (p := p) (b := b) (sv := sv) hb0)
  have hform : ∃ a c, sv = .slice a m c := by
    obtain ⟨a, c, e, -⟩ := (SR.owns h0.ev).form
    rw [hm] at e
    exact ⟨a, c, e⟩
  obtain ⟨sa, sc, rfl⟩ := hform
  obtain ⟨k, hk⟩ : ∃ k, n + 1 = k := ⟨_, rfl⟩
  rw [hk]
  have hw1 : IntKind.i64.wrap ((n : Int) + 1) = (k : Int) := by rw [IntKind.wrap_i64]; omega
  have hkn : k ≤ 100001 := by omega
  have HKN := Lib.hid hk
  clear h h0 hD hm hb0 hk
  go_enter Try.func50, Try.ntmps50
  go_upto_region 1 with fail
  generalize w.alloc (.cells #[.int .i64 what, .int .i64 at_, .int .i64 len, .string data, .bool sure] 96) = w1 at *
  obtain ⟨c0, c1, c2, fz⟩ := h1.cells
  have hc2 := h1.count k
  have hy2 := (heap_setCell_other w1 ⟨p, 1, none⟩ w.heap.size (.int .i64 (k : Int)) hqp).trans hy
  have hk2 := HK0.out.trans (hk_set (w := w1) (p := p) (b := b) (i := 1) (sv := .slice sa m sc) (v := .int .i64 (k : Int)))
  have hmI : ¬ (2000 : Int) ≤ m := by omega
  have em := map_is b
  have hmd : decide ((2000 : Int) ≤ m) = false := decide_eq_false hmI
  have H2 := Lib.hid (And.intro hc2 (And.intro hy2 hk2))
  clear hc2 hy2 hk2 h1 hy
  go_upto_region 4 with fail
  generalize w1.setCell ⟨p, 1, none⟩ (.int .i64 (k : Int)) = w2 at *
  have hb3 : Below w2.heap.size w2 w2.drew := below_drew' (Below.refl _ _)
  obtain ⟨d0, d1, d2, fz2⟩ := H2.out.1.cells
  obtain ⟨W3, hrun, hM3, hg3⟩ := (H2.out.1.below hb3).map.update keyI Try.underlying169 (show n < maxLen by unfold maxLen; omega) (Go.Maps.keyOf_int_mk Try.underlying3 (show (Lit.int .i64 (k : Int)).wf = true from wf_of (by omega))) (plainElem_int (H := Unit) Try.underlying3 (show (Lit.int .i64 (m : Int)).wf = true from wf_of (by omega)))
  rw [HKN.out] at hM3
  have H3 := Lib.hid (And.intro ((H2.out.1.below hb3).turn hM3 hg3) (And.intro ((hg3.block w.heap.size (by have := lt_heap H2.out.2.1; simpa using this) (fun e => hqb (Option.some.inj e))).trans H2.out.2.1) ((H2.out.2.2.trans (HKept.of_below hb3)).trans (hk_map hg3))))
  clear hM3 hg3 hb3 em hmI hmd
  go_region
  clear d0 d1 d2 fz2 hrun c0 c1 c2 fz
  obtain ⟨d0, d1, d2, fz2⟩ := H3.out.1.cells
  have hy3 := H3.out.2.1
  have a0 := scell0 hy3 0 (v := .int .i64 what) rfl
  have a1 := scell0 hy3 1 (v := .int .i64 at_) rfl
  have a2 := scell0 hy3 2 (v := .int .i64 len) rfl
  have a3 := scell0 hy3 3 (v := .string data) rfl
  have a4 := scell0 hy3 4 (v := .bool sure) rfl
  have gza := (World.cell?_alloc_lt W3 (.cells #[.bool false, .int .i64 (k : Int), .int .i64 g, .int .i64 what, .int .i64 at_, .int .i64 len, .string data, .bool sure, .int .i64 0, .string ⟨#[]⟩] 104) ⟨p, 0, none⟩ (lt_heap H3.out.1.obj)).trans d0
  have HLD := Lib.hid (H3.out.1.below (below_drew' (Below.refl _ _)))
  have hrow := HLD.out.ev
  rw [HM.out] at hrow
  have HROW := Lib.hid hrow
  have hle := hrow.2
  have hNW : N ≤ W3.heap.size := Nat.le_trans hN H3.out.2.2.size
  clear hy3 hrow hle
  go_upto_region 5 with fail
  go_region_law (first | (refine step_app2 Try.underlying94 hi hz0 hz1 hz2 rfl (by decide) rfl (.tmp 48) (.tmp 56) rfl N _ m (evC E) rfl (HROW.out.alloc _) _ 1 (evC [⟨false, (k : Int), g, what, at_, len, data, sure, 0, ⟨#[]⟩⟩]) rfl (SR.lit _ _ #[.bool false, .int .i64 (k : Int), .int .i64 g, .int .i64 what, .int .i64 at_, .int .i64 len, .string data, .bool sure, .int .i64 0, .string ⟨#[]⟩] 10 1 (by decide) rfl) (by decide) (evC_one _) (by unfold maxLen; omega) (by omega) (by simp; omega) ?_; intro v2 w4 own2 hg2 hn2; obtain ⟨a2, c2, rfl⟩ := owns_form3 own2; have LP := HLD.out.app (x := ⟨false, (k : Int), g, what, at_, len, data, sure, 0, ⟨#[]⟩⟩) (by rw [HM.out]; exact own2) hg2 hn2; have y2 := scell0 LP.1 0 (v := .slice sa m sc) rfl; have f2 := sfrz0 LP.1 0; have HLP := Lib.hid LP; clear LP own2 hg2 hn2))
  all_goals
    have HF := Lib.hid (And.intro HLP.out.2.1 ((H3.out.2.2.trans (HKept.of_below (below_drew' (Below.refl _ _)))).trans HLP.out.2.2))
    clear y2 f2 HLP HLD gza HROW d0 d1 d2 fz2 a0 a1 a3 a4
    generalize w4.setCell ⟨p, 0, none⟩ (.slice a2 (m + 1) c2) = W5 at *
    obtain ⟨c0, c1, c2', fz⟩ := HF.out.1.cells
    go_wp2_with fail
    go_ret
    exact ⟨rfl, _, hist_more HF.out.1 HLOW.out.1 HLOW.out.2.1 HLOW.out.2.2.1 HLOW.out.2.2.2.1 HKN.out HLOW.out.2.2.2.2, HF.out.2⟩
end Go.Proofs.Ytadejhlljdcocaa
/-
  A history: told; all of it.
-/

namespace Go.Proofs.Ytadejhlljdcocaa
open Go.RowKit
open Go.Maps (Keyed)
set_option linter.unusedVariables false
set_option linter.unusedSimpArgs false

theorem hist_less {w : World} {N p b : Nat} {sv : Value} {E : List EV} {n : Nat} {op : List Int} {D : DataW Unit} {id : Int} (h : HObj w N p b sv E n n (D.del (.int .i64 id))) (hlow : N ≤ p ∧ N ≤ b) (hup : op.Pairwise (· < ·)) (hr : ∀ x ∈ op, 1 ≤ x ∧ x ≤ n) (hD : ∀ x, Maps.has D (.int .i64 x) = decide (x ∈ op)) : Hist w N p b sv E n (op.filter (fun x => x ≠ id)) := by
  refine ⟨h.obj, h.ev, ⟨_, h.map, fun x => ?_⟩, hlow, hup.filter _, fun x hx => hr x (List.mem_filter.1 hx).1⟩
  by_cases hx : x = id
  · subst hx
    rw [Maps.has_del_same]
    simp
  · rw [Maps.has_del_other (by intro e; injection e with _ e; exact hx e), hD x]
    simp [hx]
theorem lookI {w : World} {b n : Nat} {D : DataW Unit} (h : w.ownsMap Try.prog 3 plI b n D) (id : Int) (hid : (Lit.int .i64 id).wf = true) :
    ∃ c : Int, (Instr.lookup 169 (.map (some b)) (.int .i64 id) true).run Try.prog w = .ok (.tuple #[.int .i64 c, .bool (Maps.has D (.int .i64 id))]) w := by
  obtain ⟨v, ps, h1, h2⟩ := h.look_ok keyI Try.underlying169 (z := .int .i64 0) (by kernel_rfl) (plainElem_int (H := Unit) Try.underlying3 (show (Lit.int .i64 0).wf = true by decide)) (Go.Maps.keyOf_int_mk Try.underlying3 hid)
  obtain ⟨c, rfl, -, -⟩ := plainElem_int_inv Try.underlying3 h2
  exact ⟨c, h1⟩
set_option maxHeartbeats 3200000 in
set_option maxRecDepth 100000 in
/-- what nobody asked for is not told -/
theorem ctell_no (g id err : Int) (data : ByteArray) (w : World) (N p b : Nat) (sv : Value) (E : List EV) (n : Nat) (op : List Int) (h : Hist w N p b sv E n op) (hid : (Lit.int .i64 id).wf = true) (hno : id ∉ op) :
    Calls Try.prog 51 #[.pointer (some ⟨p, 0, none⟩), .int .i64 g, .agg #[.int .i64 id, .int .i64 err, .string data]] w fun e w' => e = .returned (.bool false) ∧ Below w.heap.size w w' := by
  obtain ⟨D, h0, hD⟩ := h.parts
  have hb0 := (Below.refl w.heap.size w).alloc (Nat.le_refl _) (.cells #[.int .i64 id, .int .i64 err, .string data] 99)
  have hy := heap_alloc_self w (.cells #[.int .i64 id, .int .i64 err, .string data] 99)
  have h1 := h0.below hb0
  obtain ⟨c, hlk⟩ := lookI (h1.below (below_drew' (Below.refl _ _))).map id hid
  rw [hD id, decide_eq_false hno] at hlk
  have HB := Lib.hid (below_drew' hb0)
  clear h h0 hD hb0
  go_enter Try.func51, Try.ntmps51
  go_upto_region 3 with fail
  generalize w.alloc (.cells #[.int .i64 id, .int .i64 err, .string data] 99) = w1 at *
  obtain ⟨c0, c1, c2, fz⟩ := h1.cells
  have y0 := scell0 hy 0 (v := .int .i64 id) rfl
  clear h1 hy
  go_region
  go_wp2_with fail
  go_ret
  exact ⟨rfl, HB.out⟩
set_option maxHeartbeats 3200000 in
set_option maxRecDepth 100000 in
/-- something is told -/
theorem ctell (g id err : Int) (data : ByteArray) (w : World) (N p b : Nat) (sv : Value) (E : List EV) (n : Nat) (op : List Int) (h : Hist w N p b sv E n op) (hid : (Lit.int .i64 id).wf = true) (hin : id ∈ op) (hE : E.length < 100000) (hN : N ≤ w.heap.size) :
    Calls Try.prog 51 #[.pointer (some ⟨p, 0, none⟩), .int .i64 g, .agg #[.int .i64 id, .int .i64 err, .string data]] w fun e w' =>
      e = .returned (.bool true) ∧ ∃ sv', Hist w' N p b sv' (E ++ [⟨true, id, g, 0, 0, 0, ⟨#[]⟩, false, err, data⟩]) n (op.filter (fun x => x ≠ id)) ∧ HKept w w' p b sv sv' := by
  obtain ⟨i0, hi, hz0, hz1, hz2⟩ := ev_zero
  obtain ⟨D, h0, hD⟩ := h.parts
  have HLOW := Lib.hid (And.intro h.low (And.intro h.up (And.intro h.rng hD)))
  have hb0 := (Below.refl w.heap.size w).alloc (Nat.le_refl _) (.cells #[.int .i64 id, .int .i64 err, .string data] 99)
  have hy := heap_alloc_self w (.cells #[.int .i64 id, .int .i64 err, .string data] 99)
  have h1 := h0.below hb0
  obtain ⟨c, hlk⟩ := lookI (h1.below (below_drew' (Below.refl _ _))).map id hid
  rw [hD id, decide_eq_true hin] at hlk
  have HK0 := Lib.hid (HKept.of_below (p := p) (b := b) (sv := sv) (below_drew' hb0))
  have hqb : w.heap.size ≠ b := by have := h0.map.lt; omega
  obtain ⟨m, hm⟩ : ∃ m, E.length = m := ⟨_, rfl⟩
  rw [hm] at hE
  have HM := Lib.hid hm
  have hform : ∃ a c, sv = .slice a m c := by
    obtain ⟨a, c, e, -⟩ := (SR.owns h0.ev).form
    rw [hm] at e
    exact ⟨a, c, e⟩
  obtain ⟨sa, sc, rfl⟩ := hform
  clear h h0 hD hb0 hm
  go_enter Try.func51, Try.ntmps51
  go_upto_region 3 with fail
  generalize w.alloc (.cells #[.int .i64 id, .int .i64 err, .string data] 99) = w1 at *
  obtain ⟨c0, c1, c2, fz⟩ := h1.cells
  have y0 := scell0 hy 0 (v := .int .i64 id) rfl
  have H1 := Lib.hid (And.intro (h1.below (below_drew' (Below.refl _ _))) hy)
  clear h1 hy
  go_region
  clear c0 c1 c2 fz y0 hlk
  have H1' : Hid (HObj w1.drew N p b (.slice sa m sc) E n n D ∧ w1.drew.heap[w.heap.size]? = some (.cells #[.int .i64 id, .int .i64 err, .string data] 99)) := Lib.hid ⟨H1.out.1, H1.out.2⟩
  clear H1
  generalize w1.drew = W1 at *
  obtain ⟨d0, d1, d2, fz2⟩ := H1'.out.1.cells
  have y0 := scell0 H1'.out.2 0 (v := .int .i64 id) rfl
  have hb3 : Below W1.heap.size W1 W1.drew := below_drew' (Below.refl _ _)
  obtain ⟨W3, hrun, hM3, ht3⟩ := (H1'.out.1.below hb3).map.drop keyI Try.underlying169 (Go.Maps.keyOf_int_mk Try.underlying3 hid) 0
  have hg3 := ht3.grown
  have H3 := Lib.hid (And.intro ((H1'.out.1.below hb3).turn hM3 hg3) (And.intro ((hg3.block w.heap.size (by have := lt_heap H1'.out.2; simpa using this) (fun e => hqb (Option.some.inj e))).trans H1'.out.2) ((HK0.out.trans (HKept.of_below hb3)).trans (hk_map hg3))))
  clear hM3 hg3 hb3 ht3
  go_upto_region 6 with fail
  go_region
  clear d0 d1 d2 fz2 hrun y0
  obtain ⟨d0, d1, d2, fz2⟩ := H3.out.1.cells
  have hy3 := H3.out.2.1
  have a0 := scell0 hy3 0 (v := .int .i64 id) rfl
  have a1 := scell0 hy3 1 (v := .int .i64 err) rfl
  have a2 := scell0 hy3 2 (v := .string data) rfl
  have gza := (World.cell?_alloc_lt W3 (.cells #[.bool true, .int .i64 id, .int .i64 g, .int .i64 0, .int .i64 0, .int .i64 0, .string ⟨#[]⟩, .bool false, .int .i64 err, .string data] 104) ⟨p, 0, none⟩ (lt_heap H3.out.1.obj)).trans d0
  have HLD := Lib.hid (H3.out.1.below (below_drew' (Below.refl _ _)))
  have hrow := HLD.out.ev
  rw [HM.out] at hrow
  have HROW := Lib.hid hrow
  have hNW : N ≤ W3.heap.size := Nat.le_trans hN H3.out.2.2.size
  clear hy3 hrow
  go_upto_region 7 with fail
  go_region_law (first | (refine step_app2 Try.underlying94 hi hz0 hz1 hz2 rfl (by decide) rfl (.tmp 33) (.tmp 42) rfl N _ m (evC E) rfl (HROW.out.alloc _) _ 1 (evC [⟨true, id, g, 0, 0, 0, ⟨#[]⟩, false, err, data⟩]) rfl (SR.lit _ _ #[.bool true, .int .i64 id, .int .i64 g, .int .i64 0, .int .i64 0, .int .i64 0, .string ⟨#[]⟩, .bool false, .int .i64 err, .string data] 10 1 (by decide) rfl) (by decide) (evC_one _) (by unfold maxLen; omega) (by omega) (by simp; omega) ?_; intro v2 w4 own2 hg2 hn2; obtain ⟨a2', c2', rfl⟩ := owns_form3 own2; have LP := HLD.out.app (x := ⟨true, id, g, 0, 0, 0, ⟨#[]⟩, false, err, data⟩) (by rw [HM.out]; exact own2) hg2 hn2; have y2 := scell0 LP.1 0 (v := .slice sa m sc) rfl; have f2 := sfrz0 LP.1 0; have HLP := Lib.hid LP; clear LP own2 hg2 hn2))
  all_goals
    have HF := Lib.hid (And.intro HLP.out.2.1 ((H3.out.2.2.trans (HKept.of_below (below_drew' (Below.refl _ _)))).trans HLP.out.2.2))
    clear y2 f2 HLP HLD gza HROW d0 d1 d2 fz2 a0 a1 a2
    generalize w4.setCell ⟨p, 0, none⟩ (.slice a2' (m + 1) c2') = W5 at *
    go_wp2_with fail
    go_ret
    exact ⟨rfl, _, hist_less HF.out.1 HLOW.out.1 HLOW.out.2.1 HLOW.out.2.2.1 HLOW.out.2.2.2, HF.out.2⟩
end Go.Proofs.Ytadejhlljdcocaa
/-
  A history: full; all of it; what is open.
-/


namespace Go.Proofs.Ytadejhlljdcocaa
open Go.RowKit
open Go.Maps (Keyed)
open Go.Sort Go.ChangeShapes Go.WideShapes
set_option linter.unusedVariables false
set_option linter.unusedSimpArgs false

set_option maxHeartbeats 1600000 in
/-- where the most were noted, nothing is asked for -/
theorem cask_full (g what at_ len : Int) (data : ByteArray) (sure : Bool) (w : World) (N p b : Nat) (sv : Value) (E : List EV) (n : Nat) (op : List Int) (h : Hist w N p b sv E n op) (hE : 2000 ≤ E.length) :
    Calls Try.prog 50 #[.pointer (some ⟨p, 0, none⟩), .int .i64 g, .agg #[.int .i64 what, .int .i64 at_, .int .i64 len, .string data, .bool sure]] w fun e w' => e = .returned (.int .i64 0) ∧ Below w.heap.size w w' := by
  obtain ⟨D, h0, hD⟩ := h.parts
  have hb0 := (Below.refl w.heap.size w).alloc (Nat.le_refl _) (.cells #[.int .i64 what, .int .i64 at_, .int .i64 len, .string data, .bool sure] 96)
  have h1 := h0.below hb0
  obtain ⟨a, cap, rfl, -⟩ := (SR.owns h0.ev).form
  have em := map_is b
  have hEI : (2000 : Int) ≤ E.length := by omega
  have HB := Lib.hid hb0
  clear h h0 hD hb0
  go_enter Try.func50, Try.ntmps50
  go_upto_region 1 with fail
  generalize w.alloc (.cells #[.int .i64 what, .int .i64 at_, .int .i64 len, .string data, .bool sure] 96) = w1 at *
  obtain ⟨c0, c1, c2, fz⟩ := h1.cells
  clear h1
  go_wp2_with fail
  go_ret
  exact ⟨rfl, HB.out⟩
set_option maxHeartbeats 1600000 in
/-- all of it -/
theorem call_ (w : World) (N p b : Nat) (sv : Value) (E : List EV) (n : Nat) (op : List Int) (h : Hist w N p b sv E n op) (hE : E.length ≤ 100000) :
    Calls Try.prog 52 #[.pointer (some ⟨p, 0, none⟩)] w fun e w' => ∃ v', e = .returned v' ∧ w'.ownsRow w.heap.size 104 10 v' E.length (evC E) ∧ Below w.heap.size w w' := by
  obtain ⟨i0, hi, hz0, hz1, hz2⟩ := ev_zero
  obtain ⟨D, h0, -⟩ := h.parts
  obtain ⟨c0, c1, c2, -⟩ := h0.cells
  have HR := Lib.hid (SR.owns h0.ev)
  clear h h0
  go_enter Try.func52, Try.ntmps52
  go_wp2_with (at_builtin; refine wp_app Try.underlying94 hi hz0 hz1 hz2 rfl (by decide) rfl (.const (.slice none 0 0)) (.tmp 8) rfl w.heap.size (.slice none 0 0) 0 [] rfl (World.ownsRow_nil _ _ _ _) sv E.length (evC E) rfl HR.out ?c1 ?c2 ?c3 ?c4 ?_)
  case c1 => exact evC_one E
  case c2 => unfold maxLen; omega
  case c3 => omega
  case c4 => exact Nat.le_refl _
  intro v' w2 hown2 hgr
  have HG := Lib.hid hgr
  have HO := Lib.hid hown2
  clear hgr hown2
  go_wp2_with fail
  go_ret
  refine ⟨_, rfl, ?_, below_app (Below.refl _ _) HG.out (World.ownsRow_nil w w.heap.size 104 10) (Nat.le_refl _) (Nat.le_refl _)⟩
  exact HO.out
theorem oinfoC : (Try.prog.info? 3).map (fun i => (i.zero, i.size, i.bytes)) = some (some (.int .i64 0), 1, 8) := by kernel_rfl
/-- numbers met so far: none twice; a number is among them just where the map has it and it is no longer to come -/
def CollI (D0 : DataW Unit) (left : Lit → Bool) (ss : List Int) : Prop := ss.Nodup ∧ ∀ x, x ∈ ss ↔ (Maps.has D0 (.int .i64 x) = true ∧ left (.int .i64 x) = false)
theorem CollI.start (D0 : DataW Unit) : CollI D0 (Maps.has D0) [] := ⟨List.nodup_nil, fun x => by cases Maps.has D0 (.int .i64 x) <;> simp⟩
theorem CollI.step {D0 : DataW Unit} {left : Lit → Bool} {ss : List Int} (h : CollI D0 left ss) {x : Int} {y : DataW Unit} (hlk : left (.int .i64 x) = true) (hat : ∀ zd, D0.atKey (.int .i64 x) zd = y) : CollI D0 (fun z => left z && !z.sameKey (.int .i64 x)) (ss ++ [x]) := by
  have hhas : Maps.has D0 (.int .i64 x) = true := Maps.has_true_of_atKey hat
  have hnew : x ∉ ss := fun hx => by have := ((h.2 x).1 hx).2; rw [hlk] at this; cases this
  refine ⟨List.nodup_append.2 ⟨h.1, by simp, fun a ha b hb => by simp at hb; subst hb; exact fun e => hnew (e ▸ ha)⟩, fun y => ?_⟩
  by_cases hy : y = x
  · subst hy; simp [hhas, Lit.sameKey]
  · simp [h.2 y, hy, Lit.sameKey]
theorem sort_of {ss op : List Int} (hn : ss.Nodup) (hm : ∀ x, x ∈ ss ↔ x ∈ op) (hup : op.Pairwise (· < ·)) : ss.mergeSort (fun x y => decide (x ≤ y)) = op ∧ ss.length = op.length := by
  have hop : op.Nodup := hup.imp (fun {a b} q e => by omega)
  have hp : ss.Perm op := (List.perm_ext_iff_of_nodup hn hop).2 hm
  refine ⟨List.Perm.eq_of_pairwise (le := fun a b => a ≤ b) (fun a b _ _ h1 h2 => by omega) ?_ (hup.imp (fun {a b} q => by omega)) ((List.mergeSort_perm _ _).trans hp), hp.length_eq⟩
  have := List.pairwise_mergeSort (le := fun x y : Int => decide (x ≤ y)) (fun a b c h1 h2 => by simp at *; omega) (fun a b => by simp; omega) ss
  exact this.imp (fun {a b} q => by simpa using q)
theorem csort (base : Nat) (v : Value) (ss op : List Int) (w : World) (h : w.ownsRow base 3 1 v ss.length (nCells ss)) (hs : ss.mergeSort (fun x y => decide (x ≤ y)) = op) (hlen : ss.length = op.length) (hl : ss.length ≤ 1000000) :
    Calls Try.prog 82 #[v] w fun e w' => e = .returned (.tuple #[]) ∧ w'.ownsRow base 3 1 v op.length (nCells op) ∧ w.grownBy w' v.ownBlock := by
  rcases h.2 with ⟨rfl, h0⟩ | ⟨g, cap, cur, rfl, hb, hg, hnc, hcm, hcs, ht⟩
  · refine Calls.mono (Try.slices_Sort_int_none none 0 w) ?_
    rintro e w' ⟨rfl, rfl⟩
    have : op = [] := List.eq_nil_of_length_eq_zero (by omega)
    subst this
    exact ⟨rfl, World.ownsRow_nil _ _ _ _, World.grownBy.refl _ _⟩
  · have ht' : cur.toList.take ss.length = ss.map (Value.int .i64) := by simpa [nCells] using ht
    refine Calls.mono (Try.slices_Sort_int g 0 cap ss w (holds_of_blockI hg ht') (lt_heap hg) (by omega)) ?_
    rintro e w' ⟨rfl, n, os, rfl⟩
    rw [hs]
    refine ⟨rfl, ?_, grownBy_sortedI _⟩
    have := ownsRow_sortedI (n := n) (os := os) (base := base) (ts := op) hlen.symm hb hg hnc hcm (by simpa using hcs)
    rw [← hlen]
    exact this
set_option maxHeartbeats 3200000 in
set_option maxRecDepth 100000 in
/-- what is open, in order -/
theorem copen (w : World) (N p b : Nat) (sv : Value) (E : List EV) (n : Nat) (op : List Int) (h : Hist w N p b sv E n op) (hl : n ≤ 100000) :
    Calls Try.prog 53 #[.pointer (some ⟨p, 0, none⟩)] w fun e w' => ∃ v', e = .returned v' ∧ w'.ownsRow w.heap.size 3 1 v' op.length (nCells op) ∧ Below w.heap.size w w' := by
  obtain ⟨i0, hi, hz0, hz1, hz2⟩ := info_parts oinfoC
  obtain ⟨D, h0, hD⟩ := h.parts
  obtain ⟨c0, c1, c2, -⟩ := h0.cells
  have HM := Lib.hid h0.map
  have HD := Lib.hid (And.intro hD h.up)
  clear h h0 hD
  go_enter Try.func53, Try.ntmps53
  go_wp2_with (at_range; refine wpList_range_own _ rfl (.tmp 10) 169 rfl 3 3 keyI Try.underlying169 plI b n D rfl HM.out ?_; intro w1 hrg hgr hsz)
  go_frame
  obtain ⟨r, hr⟩ : ∃ r, w.heap.size = r := ⟨_, rfl⟩
  have hn := HM.out.size_le
  have hbr : b < r := by have := HM.out.lt; omega
  have H1 := Lib.hid (show w1.ranges Try.prog 3 plI b r n D (Maps.has D) (Maps.size D) ∧ w1.ownsRow (r + 1) 3 1 (.slice none 0 0) ([] : List Int).length (nCells []) ∧ CollI D (Maps.has D) [] ∧ Below r w w1 from ⟨by rw [← hr]; exact hrg, World.ownsRow_nil _ _ _ _, CollI.start D, ⟨hgr.os, hgr.tape, hgr.output, hgr.size, fun k hk => hgr.block k (by omega) (by simp)⟩⟩)
  rw [hr]
  have HRR := Lib.hid hr
  clear hrg hgr hsz hr
  go_loopw [3] (fun v wr => ∃ (left : Lit → Bool) (cnt : Nat) (ss : List Int), Hid (wr.ranges Try.prog 3 plI b r n D left cnt ∧ wr.ownsRow (r + 1) 3 1 v ss.length (nCells ss) ∧ CollI D left ss ∧ Below r w wr) ∧ ss.length + cnt ≤ n) (fun _ wr => wr.rangeLeft b r)
  case atStart => exact ⟨_, _, [], H1, by simpa using hn⟩
  case round =>
    obtain ⟨left, cnt, ss, HR, hcnt⟩ := hrel
    clear H1
    go_wp2_with (at_next; refine wpList_next_ranges_ii _ rfl (.tmp 11) rfl 3 3 .i64 .i64 keyI Try.underlying3 Try.underlying3 b r n D left cnt rfl HR.out.1 ?done ?more)
    case done =>
      intro h0 hleft
      have hso := sort_of HR.out.2.2.1.1 (fun x => by rw [HR.out.2.2.1.2 x, hleft, HD.out.1 x]; simp) HD.out.2
      have cs := csort (r + 1) u3 ss op wr HR.out.2.1 hso.1 hso.2 (by omega)
      clear hleft h0
      go_wp2_with fail
      refine Calls.mono cs ?_
      rintro e w3 ⟨rfl, ho, hg⟩
      have HO := Lib.hid ho
      have HB := Lib.hid (show Below r w w3 from HR.out.2.2.2.grown hg (by rw [← HRR.out]; exact HR.out.2.2.2.size) (fun k hk => by have := (HR.out.2.1.lt k hk).1; omega))
      clear ho hg cs hso
      go_wp2_with fail
      go_ret
      rw [HRR.out]
      refine ⟨_, rfl, ?_, HB.out⟩
      obtain ⟨q1, q2⟩ := HO.out
      refine ⟨q1, q2.imp id ?_⟩
      rintro ⟨g, cap, cur, e, hb, q⟩
      exact ⟨g, cap, cur, e, by omega, q⟩
    case more =>
      intro x c w2 cnt' hwx hwc hlk hat hrg' hlt hgr' hsz' hen
      have ho2 := HR.out.2.1.kept hgr' (by
        cases hv : u3.ownBlock with
        | none => exact .inl rfl
        | some k => exact .inr (fun e => by injection e with e; have := (HR.out.2.1.lt k hv).1; omega))
      have hb2 : Below r w w2 := HR.out.2.2.2.grown hgr' (by rw [← HRR.out]; exact HR.out.2.2.2.size) (fun k hk => by injection hk with hk; omega)
      have H2 := Lib.hid (And.intro hrg' (And.intro ho2 (And.intro (HR.out.2.2.1.step hlk hat) hb2)))
      have hrz : r < w2.heap.size := hrg'.lt
      clear hwc hlk hat hrg' hgr' hsz' ho2 hb2
      go_wp2_with (at_builtin; refine wp_app Try.underlying29 hi hz0 hz1 hz2 rfl (by decide) rfl (.tmp 16) (.tmp 18) rfl (r + 1) _ ss.length _ rfl (H2.out.2.1.alloc _) _ 1 [.int .i64 x] rfl (SR.lit _ _ _ 1 1 (by decide) rfl) ?c1 ?c2 ?c3 ?c4 ?_)
      case c1 => intro y hy; rw [List.mem_singleton.1 hy]; rfl
      case c2 => unfold maxLen; omega
      case c3 => omega
      case c4 => simp; omega
      intro v' w3 hown hgr
      have hne : ∀ k, u3.ownBlock = some k → r + 1 ≤ k := fun k hk => (H2.out.2.1.lt k hk).1
      have H3 := Lib.hid (show w3.ranges Try.prog 3 plI b r n D _ cnt' ∧ w3.ownsRow (r + 1) 3 1 v' (ss ++ [x]).length (nCells (ss ++ [x])) ∧ CollI D _ (ss ++ [x]) ∧ Below r w w3 from
        ⟨(H2.out.1.alloc _).kept hgr (fun e => by have := hne b e.symm; omega) (fun e => by have := hne r e.symm; omega), by rw [List.length_append, ← nCells_append]; exact hown, H2.out.2.2.1, (H2.out.2.2.2.alloc (by rw [← HRR.out]; exact H2.out.2.2.2.size) _).grown hgr (by simp; omega) (fun k hk => by have := hne k hk; omega)⟩)
      have hm1 := HR.out.1.left_eq
      have hm3 := H3.out.1.left_eq
      clear hown hgr hen
      go_wp2_with fail
      go_roundw
      case rel => exact ⟨_, cnt', ss ++ [x], H3, by simp; omega⟩
      case measure => omega
end Go.Proofs.Ytadejhlljdcocaa
