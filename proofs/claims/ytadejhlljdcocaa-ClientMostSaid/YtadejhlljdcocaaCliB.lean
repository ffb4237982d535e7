/-
  A history: made, asked, told.
-/
import Derived.Test.YtadejhlljdcocaaCli
import Derived.Test.YtadejhlljdcocaaRlogB
namespace Go.Proofs.Ytadejhlljdcocaa
open Go.RowKit
open Go.Maps (Keyed)
set_option linter.unusedVariables false
set_option linter.unusedSimpArgs false

theorem hk_set {w : World} {p b i : Nat} {sv v : Value} : HKept w (w.setCell ⟨p, i, none⟩ v) p b sv sv :=
  ⟨rfl, rfl, rfl, by simp, fun k _ h1 _ _ => heap_setCell_other _ _ _ _ h1, fun k e => .inl e⟩
theorem hk_map {w w' : World} {p b : Nat} {sv : Value} (hg : w.grownBy w' (some b)) : HKept w w' p b sv sv :=
  ⟨hg.os, hg.tape, hg.output, hg.size, fun k hk _ h2 _ => hg.block k hk (fun e => h2 (Option.some.inj e)), fun k e => .inl e⟩
theorem map_move {w w' : World} {b n : Nat} {D : DataW Unit} (h : w.ownsMap Try.prog 3 plI b n D) (e : w'.heap[b]? = w.heap[b]?) : w'.ownsMap Try.prog 3 plI b n D := by
  obtain ⟨es, clock, hb, F⟩ := h
  exact ⟨es, clock, e.trans hb, F⟩
/-- the parts of a history, whichever numbers are open -/
structure HObj (w : World) (N p b : Nat) (sv : Value) (E : List EV) (n m : Nat) (D : DataW Unit) : Prop where
  obj : w.heap[p]? = some (.cells #[sv, .int .i64 n, .map (some b)] 171)
  ev : w.ownsRow N 104 10 sv E.length (evC E)
  map : w.ownsMap Try.prog 3 plI b m D
theorem HObj.ne {w : World} {N p b : Nat} {sv : Value} {E : List EV} {n m : Nat} {D : DataW Unit} (h : HObj w N p b sv E n m D) : p ≠ b ∧ sv.ownBlock ≠ some p ∧ sv.ownBlock ≠ some b := by
  obtain ⟨es, clock, hm, -⟩ := h.map
  refine ⟨fun e => ?_, fun e => ?_, fun e => ?_⟩
  · have := h.obj; rw [e, hm] at this; cases this
  · obtain ⟨cur, hc⟩ := own_type h.ev e
    rw [h.obj] at hc
    injection hc with hc
    injection hc with _ hc
    exact absurd hc (by decide)
  · obtain ⟨cur, hc⟩ := own_type h.ev e
    rw [hm] at hc
    cases hc
theorem HObj.below {w w' : World} {N p b : Nat} {sv : Value} {E : List EV} {n m : Nat} {D : DataW Unit} (h : HObj w N p b sv E n m D) (hb : Below w.heap.size w w') : HObj w' N p b sv E n m D :=
  ⟨below_at hb (lt_heap h.obj) h.obj, owns_below h.ev hb, map_move h.map (hb.block b h.map.lt)⟩
theorem HObj.cells {w : World} {N p b : Nat} {sv : Value} {E : List EV} {n m : Nat} {D : DataW Unit} (h : HObj w N p b sv E n m D) :
    w.cell? ⟨p, 0, none⟩ = some sv ∧ w.cell? ⟨p, 1, none⟩ = some (.int .i64 n) ∧ w.cell? ⟨p, 2, none⟩ = some (.map (some b)) ∧ ∀ i, w.frozen? ⟨p, i, none⟩ = false := by
  have hc := h.obj
  exact ⟨by simp [World.cell?, hc], by simp [World.cell?, hc], by simp [World.cell?, hc], fun i => by simp [World.frozen?, hc]⟩
/-- one more was asked -/
theorem HObj.count {w : World} {N p b : Nat} {sv : Value} {E : List EV} {n m : Nat} {D : DataW Unit} (h : HObj w N p b sv E n m D) (k : Nat) : HObj (w.setCell ⟨p, 1, none⟩ (.int .i64 k)) N p b sv E k m D := by
  obtain ⟨n1, n2, n3⟩ := h.ne
  refine ⟨heap_set_self h.obj 1 (.int .i64 k), own_move h.ev fun g e => heap_setCell_other _ _ _ _ (fun q => n2 (by rw [e, q])), map_move h.map (heap_setCell_other _ _ _ _ n1.symm)⟩
/-- its map turns -/
theorem HObj.turn {w w' : World} {N p b : Nat} {sv : Value} {E : List EV} {n m m' : Nat} {D D' : DataW Unit} (h : HObj w N p b sv E n m D) (hm : w'.ownsMap Try.prog 3 plI b m' D') (hg : w.grownBy w' (some b)) : HObj w' N p b sv E n m' D' := by
  obtain ⟨n1, n2, n3⟩ := h.ne
  refine ⟨(hg.block p (lt_heap h.obj) (fun e => n1 (Option.some.inj e))).trans h.obj, own_move h.ev fun g e => hg.block g ?_ (fun q => n3 (by rw [e, q])), hm⟩
  obtain ⟨cur, hc⟩ := own_type h.ev e
  exact lt_heap hc
/-- an event more -/
theorem HObj.app {w w4 : World} {N p b : Nat} {sv v2 : Value} {E : List EV} {n m : Nat} {D : DataW Unit} {o : Obj} {x : EV} (h : HObj w N p b sv E n m D)
    (hown : w4.ownsRow N 104 10 v2 (E.length + 1) (evC E ++ evC [x])) (hg : (w.alloc o).grownBy w4 sv.ownBlock) (hn : v2.ownBlock = sv.ownBlock ∨ v2.ownBlock = some (w.alloc o).heap.size) :
    w4.heap[p]? = some (.cells #[sv, .int .i64 n, .map (some b)] 171) ∧ HObj (w4.setCell ⟨p, 0, none⟩ v2) N p b v2 (E ++ [x]) n m D ∧ HKept w (w4.setCell ⟨p, 0, none⟩ v2) p b sv v2 := by
  obtain ⟨n1, n2, n3⟩ := h.ne
  have hp := lt_heap h.obj
  have hb := h.map.lt
  have hz : (w.alloc o).heap.size = w.heap.size + 1 := by simp
  have key : ∀ k, k < w.heap.size → some k ≠ sv.ownBlock → w4.heap[k]? = w.heap[k]? := fun k hk hne => (hg.block k (by omega) hne).trans (Below.heap_alloc w o k hk)
  have h1 : w4.heap[p]? = some (.cells #[sv, .int .i64 n, .map (some b)] 171) := (key p hp (Ne.symm n2)).trans h.obj
  have hv2 : ∀ g, v2.ownBlock = some g → g ≠ p := fun g e q => by
    rcases hn with r | r
    · exact n2 (by rw [← r, e, q])
    · rw [r] at e; injection e with e; omega
  refine ⟨h1, ⟨heap_set_self h1 0 v2, ?_, map_move h.map ((heap_setCell_other _ _ _ _ n1.symm).trans (key b hb (Ne.symm n3)))⟩, ⟨hg.os, hg.tape, hg.output, ?_, fun k hk k1 k2 k3 => (heap_setCell_other _ _ _ _ k1).trans (key k hk k3), fun k e => ?_⟩⟩
  · rw [List.length_append, evC_append]
    exact own_move hown fun g e => heap_setCell_other _ _ _ _ (hv2 g e)
  · have := hg.size
    simp at this ⊢
    omega
  · rcases hn with r | r
    · rw [r] at e; exact .inl e
    · rw [r] at e; injection e with e; exact .inr (by omega)
theorem Hist.parts {w : World} {N p b : Nat} {sv : Value} {E : List EV} {n : Nat} {op : List Int} (h : Hist w N p b sv E n op) : ∃ D, HObj w N p b sv E n n D ∧ ∀ x, Maps.has D (.int .i64 x) = decide (x ∈ op) := by
  obtain ⟨D, hm, hh⟩ := h.map
  exact ⟨D, ⟨h.obj, h.ev, hm⟩, hh⟩
theorem ev_zero : ∃ i0 : TypeInfo, Try.prog.info? 104 = some i0 ∧ i0.zero = some (.agg (EV.c ⟨false, 0, 0, 0, 0, 0, ⟨#[]⟩, false, 0, ⟨#[]⟩⟩).toArray) ∧ i0.size = 10 ∧ i0.bytes = 96 := by
  have h : (Try.prog.info? 104).map (fun i => (i.zero, i.size, i.bytes)) = some (some (.agg (EV.c ⟨false, 0, 0, 0, 0, 0, ⟨#[]⟩, false, 0, ⟨#[]⟩⟩).toArray), 10, 96) := by kernel_rfl
  simp only [Option.map_eq_some_iff, Prod.mk.injEq] at h
  exact h
theorem hist_more {w : World} {N p b : Nat} {sv : Value} {E : List EV} {n k : Nat} {op : List Int} {D : DataW Unit} {y : DataW Unit} (h : HObj w N p b sv E k k (D.put (.int .i64 k) y)) (hlow : N ≤ p ∧ N ≤ b) (hup : op.Pairwise (· < ·)) (hr : ∀ x ∈ op, 1 ≤ x ∧ x ≤ n) (hD : ∀ x, Maps.has D (.int .i64 x) = decide (x ∈ op)) (hk : n + 1 = k) (hM : Maps.IsMap D) : Hist w N p b sv E k (op ++ [(k : Int)]) := by
  refine ⟨h.obj, h.ev, ⟨_, h.map, fun x => ?_⟩, hlow, ?_, fun x hx => ?_⟩
  · by_cases hx : x = k
    · subst hx
      rw [Maps.has_put_same hM (by first | trivial | decide | exact rfl)]
      simp
    · rw [Maps.has_put_other (by intro e; injection e with _ e; exact hx e), hD x]
      simp [hx]
  · refine List.pairwise_append.2 ⟨hup, List.pairwise_singleton _ _, fun x hx y hy => ?_⟩
    rw [List.mem_singleton.1 hy]
    have := hr x hx
    omega
  · rcases List.mem_append.1 hx with q | q
    · have := hr x q; omega
    · rw [List.mem_singleton.1 q]; omega
theorem scell0 {w : World} {b : Nat} {A : Array Value} {t : TypeId} {fr : Nat × Nat} (h : w.heap[b]? = some (.cells A t fr)) (i : Nat) {v : Value} (hv : A[i]? = some v) : w.cell? ⟨b, i, none⟩ = some v := by
  simp [World.cell?, h, hv]
theorem sfrz0 {w : World} {b : Nat} {A : Array Value} {t : TypeId} (h : w.heap[b]? = some (.cells A t)) (i : Nat) : w.frozen? ⟨b, i, none⟩ = false := by simp [World.frozen?, h]
theorem map_is (b : Nat) (w : World) : (binOp .eql 169 (.map (some b)) (.map none)).run Try.prog w = .ok (.bool false) w := by kernel_rfl
theorem cnew (w : World) : Calls Try.prog 49 #[] w fun e w' => ∃ p b, e = .returned (.pointer (some ⟨p, 0, none⟩)) ∧ Hist w' w.heap.size p b (.slice none 0 0) [] 0 [] ∧ Below w.heap.size w w' := by
  have hmm := @run_makeMap Try.prog
  go_enter Try.func49, Try.ntmps49
  go_wp2_with fail
  go_ret
  have hM := World.ownsMap_made (H := Unit) w Try.prog 3 plI
  have hb1 := (Below.refl w.heap.size w).alloc (Nat.le_refl _) (.map #[] 0)
  generalize hw2 : w.alloc (.map #[] 0) = w2 at *
  have hs : w2.heap.size = w.heap.size + 1 := by rw [← hw2]; simp
  rw [← hs]
  exact ⟨w2.heap.size, w.heap.size, rfl, ⟨heap_alloc_self _ _, World.ownsRow_nil _ _ _ _, ⟨_, hM.alloc _, fun x => by simp [Maps.has]⟩, by omega, List.Pairwise.nil, (by simp)⟩, hb1.alloc hb1.size _⟩
set_option maxHeartbeats 3200000 in
set_option maxRecDepth 100000 in
/-- something is asked for -/
theorem cask (g what at_ len : Int) (data : ByteArray) (sure : Bool) (w : World) (N p b : Nat) (sv : Value) (E : List EV) (n : Nat) (op : List Int) (h : Hist w N p b sv E n op) (hE : E.length < 2000) (hn : n ≤ 100000) (hN : N ≤ w.heap.size) :
    Calls Try.prog 50 #[.pointer (some ⟨p, 0, none⟩), .int .i64 g, .agg #[.int .i64 what, .int .i64 at_, .int .i64 len, .string data, .bool sure]] w fun e w' =>
      e = .returned (.int .i64 ((n + 1 : Nat) : Int)) ∧ ∃ sv', Hist w' N p b sv' (E ++ [⟨false, (n + 1 : Nat), g, what, at_, len, data, sure, 0, ⟨#[]⟩⟩]) (n + 1) (op ++ [((n + 1 : Nat) : Int)]) ∧ HKept w w' p b sv sv' := by
  obtain ⟨i0, hi, hz0, hz1, hz2⟩ := ev_zero
  obtain ⟨D, h0, hD⟩ := h.parts
  have HLOW := Lib.hid (And.intro h.low (And.intro h.up (And.intro h.rng (And.intro hD h0.map.isMap))))
  have hb0 := (Below.refl w.heap.size w).alloc (Nat.le_refl _) (.cells #[.int .i64 what, .int .i64 at_, .int .i64 len, .string data, .bool sure] 96)
  have hy := heap_alloc_self w (.cells #[.int .i64 what, .int .i64 at_, .int .i64 len, .string data, .bool sure] 96)
  have h1 := h0.below hb0
  have hqp : w.heap.size ≠ p := by have := lt_heap h0.obj; omega
  have hqb : w.heap.size ≠ b := by have := h0.map.lt; omega
  obtain ⟨m, hm⟩ : ∃ m, E.length = m := ⟨_, rfl⟩
  rw [hm] at hE
  have HM := Lib.hid hm
  have HK0 := Lib.hid (HKept.of_below (p := p) (b := b) (sv := sv) hb0)
  have hform : ∃ a c, sv = .slice a m c := by
    obtain ⟨a, c, e, -⟩ := (SR.owns h0.ev).form
    rw [hm] at e
    exact ⟨a, c, e⟩
  obtain ⟨sa, sc, rfl⟩ := hform
  obtain ⟨k, hk⟩ : ∃ k, n + 1 = k := ⟨_, rfl⟩
  rw [hk]
  have hw1 : IntKind.i64.wrap ((n : Int) + 1) = (k : Int) := by rw [IntKind.wrap_i64]; omega
  have hkn : k ≤ 100001 := by omega
  have HKN := Lib.hid hk
  clear h h0 hD hm hb0 hk
  go_enter Try.func50, Try.ntmps50
  go_upto_region 1 with fail
  generalize w.alloc (.cells #[.int .i64 what, .int .i64 at_, .int .i64 len, .string data, .bool sure] 96) = w1 at *
  obtain ⟨c0, c1, c2, fz⟩ := h1.cells
  have hc2 := h1.count k
  have hy2 := (heap_setCell_other w1 ⟨p, 1, none⟩ w.heap.size (.int .i64 (k : Int)) hqp).trans hy
  have hk2 := HK0.out.trans (hk_set (w := w1) (p := p) (b := b) (i := 1) (sv := .slice sa m sc) (v := .int .i64 (k : Int)))
  have hmI : ¬ (2000 : Int) ≤ m := by omega
  have em := map_is b
  have hmd : decide ((2000 : Int) ≤ m) = false := decide_eq_false hmI
  have H2 := Lib.hid (And.intro hc2 (And.intro hy2 hk2))
  clear hc2 hy2 hk2 h1 hy
  go_upto_region 4 with fail
  generalize w1.setCell ⟨p, 1, none⟩ (.int .i64 (k : Int)) = w2 at *
  have hb3 : Below w2.heap.size w2 w2.drew := below_drew' (Below.refl _ _)
  obtain ⟨d0, d1, d2, fz2⟩ := H2.out.1.cells
  obtain ⟨W3, hrun, hM3, hg3⟩ := (H2.out.1.below hb3).map.update keyI Try.underlying169 (show n < maxLen by unfold maxLen; omega) (Go.Maps.keyOf_int_mk Try.underlying3 (show (Lit.int .i64 (k : Int)).wf = true from wf_of (by omega))) (plainElem_int (H := Unit) Try.underlying3 (show (Lit.int .i64 (m : Int)).wf = true from wf_of (by omega)))
  rw [HKN.out] at hM3
  have H3 := Lib.hid (And.intro ((H2.out.1.below hb3).turn hM3 hg3) (And.intro ((hg3.block w.heap.size (by have := lt_heap H2.out.2.1; simpa using this) (fun e => hqb (Option.some.inj e))).trans H2.out.2.1) ((H2.out.2.2.trans (HKept.of_below hb3)).trans (hk_map hg3))))
  clear hM3 hg3 hb3 em hmI hmd
  go_region
  clear d0 d1 d2 fz2 hrun c0 c1 c2 fz
  obtain ⟨d0, d1, d2, fz2⟩ := H3.out.1.cells
  have hy3 := H3.out.2.1
  have a0 := scell0 hy3 0 (v := .int .i64 what) rfl
  have a1 := scell0 hy3 1 (v := .int .i64 at_) rfl
  have a2 := scell0 hy3 2 (v := .int .i64 len) rfl
  have a3 := scell0 hy3 3 (v := .string data) rfl
  have a4 := scell0 hy3 4 (v := .bool sure) rfl
  have gza := (World.cell?_alloc_lt W3 (.cells #[.bool false, .int .i64 (k : Int), .int .i64 g, .int .i64 what, .int .i64 at_, .int .i64 len, .string data, .bool sure, .int .i64 0, .string ⟨#[]⟩] 104) ⟨p, 0, none⟩ (lt_heap H3.out.1.obj)).trans d0
  have HLD := Lib.hid (H3.out.1.below (below_drew' (Below.refl _ _)))
  have hrow := HLD.out.ev
  rw [HM.out] at hrow
  have HROW := Lib.hid hrow
  have hle := hrow.2
  have hNW : N ≤ W3.heap.size := Nat.le_trans hN H3.out.2.2.size
  clear hy3 hrow hle
  go_upto_region 5 with fail
  go_region_law (first | (refine step_app2 Try.underlying94 hi hz0 hz1 hz2 rfl (by decide) rfl (.tmp 48) (.tmp 56) rfl N _ m (evC E) rfl (HROW.out.alloc _) _ 1 (evC [⟨false, (k : Int), g, what, at_, len, data, sure, 0, ⟨#[]⟩⟩]) rfl (SR.lit _ _ #[.bool false, .int .i64 (k : Int), .int .i64 g, .int .i64 what, .int .i64 at_, .int .i64 len, .string data, .bool sure, .int .i64 0, .string ⟨#[]⟩] 10 1 (by decide) rfl) (by decide) (evC_one _) (by unfold maxLen; omega) (by omega) (by simp; omega) ?_; intro v2 w4 own2 hg2 hn2; obtain ⟨a2, c2, rfl⟩ := owns_form3 own2; have LP := HLD.out.app (x := ⟨false, (k : Int), g, what, at_, len, data, sure, 0, ⟨#[]⟩⟩) (by rw [HM.out]; exact own2) hg2 hn2; have y2 := scell0 LP.1 0 (v := .slice sa m sc) rfl; have f2 := sfrz0 LP.1 0; have HLP := Lib.hid LP; clear LP own2 hg2 hn2))
  all_goals
    have HF := Lib.hid (And.intro HLP.out.2.1 ((H3.out.2.2.trans (HKept.of_below (below_drew' (Below.refl _ _)))).trans HLP.out.2.2))
    clear y2 f2 HLP HLD gza HROW d0 d1 d2 fz2 a0 a1 a3 a4
    generalize w4.setCell ⟨p, 0, none⟩ (.slice a2 (m + 1) c2) = W5 at *
    obtain ⟨c0, c1, c2', fz⟩ := HF.out.1.cells
    go_wp2_with fail
    go_ret
    exact ⟨rfl, _, hist_more HF.out.1 HLOW.out.1 HLOW.out.2.1 HLOW.out.2.2.1 HLOW.out.2.2.2.1 HKN.out HLOW.out.2.2.2.2, HF.out.2⟩
end Go.Proofs.Ytadejhlljdcocaa
