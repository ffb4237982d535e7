/-
  A history: Find; of none; the waking call of layer 34.
-/
import Derived.Test.YtadejhlljdcocaaCliC
import Derived.Test.YtadejhlljdcocaaCliD
import Derived.Test.YtadejhlljdcocaaCliE
namespace Go.Proofs.Ytadejhlljdcocaa
open Go.RowKit
open Go.Maps (Keyed)
set_option linter.unusedVariables false
set_option linter.unusedSimpArgs false

def evZ : EV := ⟨false, 0, 0, 0, 0, 0, ⟨#[]⟩, false, 0, ⟨#[]⟩⟩
def FindPost (o : Option EV) (w : World) (e : Ending) (w' : World) : Prop := e = .returned (.tuple #[.agg (o.getD evZ).c.toArray, .bool o.isSome]) ∧ Below w.heap.size w w'
theorem set_same {w : World} {b i : Nat} {A : Array Value} {t : TypeId} {v : Value} (h : w.heap[b]? = some (.cells A t)) (hv : A[i]? = some v) : w.setCell ⟨b, i, none⟩ v = w := by
  have hh : (w.setCell ⟨b, i, none⟩ v).heap = w.heap := by
    apply Array.ext_getElem?
    intro k
    by_cases hk : k = b
    · subst hk
      rw [heap_set_self h i v, h]
      congr 2
      obtain ⟨hk, -⟩ := Array.getElem?_eq_some_iff.1 hv
      apply Array.ext_getElem?
      intro j
      rw [Array.getElem?_setIfInBounds]
      split
      · next e => subst e; exact hv.symm
      · rfl
    · exact heap_setCell_other _ _ _ _ hk
  have : (w.setCell ⟨b, i, none⟩ v) = { w with heap := (w.setCell ⟨b, i, none⟩ v).heap } := rfl
  rw [this, hh]
theorem set_ten {w : World} {b : Nat} {t : TypeId} {x0 x1 x2 x3 x4 x5 x6 x7 x8 x9 y0 y1 y2 y3 y4 y5 y6 y7 y8 y9 : Value} (h : w.heap[b]? = some (.cells #[x0, x1, x2, x3, x4, x5, x6, x7, x8, x9] t)) : ((((((((((w.setCell ⟨b, 0, none⟩ y0).setCell ⟨b, 1, none⟩ y1).setCell ⟨b, 2, none⟩ y2).setCell ⟨b, 3, none⟩ y3).setCell ⟨b, 4, none⟩ y4).setCell ⟨b, 5, none⟩ y5).setCell ⟨b, 6, none⟩ y6).setCell ⟨b, 7, none⟩ y7).setCell ⟨b, 8, none⟩ y8).setCell ⟨b, 9, none⟩ y9).heap[b]? = some (.cells #[y0, y1, y2, y3, y4, y5, y6, y7, y8, y9] t) := by
  have := (heap_set_self (heap_set_self (heap_set_self (heap_set_self (heap_set_self (heap_set_self (heap_set_self (heap_set_self (heap_set_self (heap_set_self h 0 y0) 1 y1) 2 y2) 3 y3) 4 y4) 5 y5) 6 y6) 7 y7) 8 y8) 9 y9)
  simpa using this
set_option maxHeartbeats 3200000 in
set_option maxRecDepth 100000 in
theorem cfind (id : Int) (w : World) (N p b : Nat) (sv : Value) (E : List EV) (n : Nat) (op : List Int) (h : Hist w N p b sv E n op) :
    Calls Try.prog 54 #[.pointer (some ⟨p, 0, none⟩), .int .i64 id] w (FindPost (E.find? (isAns id)) w) := by
  obtain ⟨D, h0, -⟩ := h.parts
  have hbA := (Below.refl w.heap.size w).alloc (Nat.le_refl _) (.cells #[.int .i64 id] 3)
  have hz : (w.alloc (.cells #[.int .i64 id] 3)).heap.size = w.heap.size + 1 := by simp
  have hbB := hbA.alloc hbA.size (.cells evZ.c.toArray 104)
  have hq := (Below.heap_alloc _ (.cells evZ.c.toArray 104) _ (lt_heap (heap_alloc_self w (.cells #[.int .i64 id] 3)))).trans (heap_alloc_self w (.cells #[.int .i64 id] 3))
  have hy := heap_alloc_self (w.alloc (.cells #[.int .i64 id] 3)) (.cells evZ.c.toArray 104)
  rw [hz] at hy
  have h1 := h0.below hbB
  obtain ⟨a, cap, rfl, hlc, hcm⟩ := (SR.owns h0.ev).form
  unfold maxLen at hcm
  obtain ⟨o, ho⟩ : ∃ o, E.find? (isAns id) = o := ⟨_, rfl⟩
  rw [ho]
  have HO := Lib.hid ho
  obtain ⟨m, hm⟩ : ∃ m, E.length = m := ⟨_, rfl⟩
  rw [hm] at hlc
  have HM := Lib.hid hm
  rw [evZ, evc] at *
  simp only at *
  clear h h0 hbA hz ho
  go_enter Try.func54, Try.ntmps54
  go_upto_region 3 with fail
  generalize (w.alloc (.cells #[.int .i64 id] 3)).alloc (.cells #[.bool false, .int .i64 0, .int .i64 0, .int .i64 0, .int .i64 0, .int .i64 0, .string ⟨#[]⟩, .bool false, .int .i64 0, .string ⟨#[]⟩] 104) = w1 at *
  obtain ⟨c0, c1, c2, fz⟩ := h1.cells
  have hq0 := scell0 hq 0 (v := .int .i64 id) rfl
  have ci := cidx id w.heap.size E w1 _ (SR.owns h1.ev) hq0 (lt_heap hq)
  rw [hm] at ci c0
  have HH := Lib.hid (And.intro h1 (And.intro hy hbB))
  clear h1 hq hy hbB hm
  go_wp2_with fail
  refine Calls.mono ci ?_
  rintro e w2 ⟨he, hb2⟩
  have hx2 := below_at hb2 (lt_heap HH.out.2.1) HH.out.2.1
  have h2 := HH.out.1.below hb2
  have HB := Lib.hid (And.intro h2 (HH.out.2.2.trans (hb2.mono HH.out.2.2.size)))
  clear ci c0 c1 c2 fz hq0 hb2
  have fz2 := sfrz0 hx2
  rcases he with ⟨k, x, rfl, hk, hf⟩ | ⟨rfl, hf⟩
  · obtain ⟨d0, d1, d2, -⟩ := h2.cells
    obtain ⟨b6, off, rfl, hc⟩ := sr_ev (SR.owns h2.ev) hk
    have k0 := hc 0 _ rfl (by decide)
    have k1 := hc 1 _ rfl (by decide)
    have k2 := hc 2 _ rfl (by decide)
    have k3 := hc 3 _ rfl (by decide)
    have k4 := hc 4 _ rfl (by decide)
    have k5 := hc 5 _ rfl (by decide)
    have k6 := hc 6 _ rfl (by decide)
    have k7 := hc 7 _ rfl (by decide)
    have k8 := hc 8 _ rfl (by decide)
    have k9 := hc 9 _ rfl (by decide)
    rw [Nat.add_zero] at k0
    have hkl : k < m := by have := (List.getElem?_eq_some_iff.1 hk).1; have := HM.out; omega
    have eo : o = some x := by rw [← HO.out, hf]
    subst eo
    rw [HM.out] at d0
    have s0 := scell0 hx2 0 (v := .bool false) rfl
    have s1 := scell0 hx2 1 (v := .int .i64 0) rfl
    have s2 := scell0 hx2 2 (v := .int .i64 0) rfl
    have s3 := scell0 hx2 3 (v := .int .i64 0) rfl
    have s4 := scell0 hx2 4 (v := .int .i64 0) rfl
    have s5 := scell0 hx2 5 (v := .int .i64 0) rfl
    have s6 := scell0 hx2 6 (v := .string ⟨#[]⟩) rfl
    have s7 := scell0 hx2 7 (v := .bool false) rfl
    have s8 := scell0 hx2 8 (v := .int .i64 0) rfl
    have s9 := scell0 hx2 9 (v := .string ⟨#[]⟩) rfl
    clear hc h2 hf hk
    obtain ⟨a, i, g, wh, at_, ln, dt, su, er, tx⟩ := x
    have HX := Lib.hid (And.intro (set_ten hx2 (y0 := .bool a) (y1 := .int .i64 i) (y2 := .int .i64 g) (y3 := .int .i64 wh) (y4 := .int .i64 at_) (y5 := .int .i64 ln) (y6 := .string dt) (y7 := .bool su) (y8 := .int .i64 er) (y9 := .string tx)) (((((((((((HB.out.2.setCell (p := ⟨w.heap.size + 1, 0, none⟩) (Nat.le_succ _) (.bool a)).setCell (p := ⟨w.heap.size + 1, 1, none⟩) (Nat.le_succ _) (.int .i64 i)).setCell (p := ⟨w.heap.size + 1, 2, none⟩) (Nat.le_succ _) (.int .i64 g)).setCell (p := ⟨w.heap.size + 1, 3, none⟩) (Nat.le_succ _) (.int .i64 wh)).setCell (p := ⟨w.heap.size + 1, 4, none⟩) (Nat.le_succ _) (.int .i64 at_)).setCell (p := ⟨w.heap.size + 1, 5, none⟩) (Nat.le_succ _) (.int .i64 ln)).setCell (p := ⟨w.heap.size + 1, 6, none⟩) (Nat.le_succ _) (.string dt)).setCell (p := ⟨w.heap.size + 1, 7, none⟩) (Nat.le_succ _) (.bool su)).setCell (p := ⟨w.heap.size + 1, 8, none⟩) (Nat.le_succ _) (.int .i64 er)).setCell (p := ⟨w.heap.size + 1, 9, none⟩) (Nat.le_succ _) (.string tx))))
    clear hx2
    go_wp2_with fail
    (try simp only [Exit.inBlock, Exit.then])
    generalize ((((((((((w2.setCell ⟨w.heap.size + 1, 0, none⟩ (.bool a)).setCell ⟨w.heap.size + 1, 1, none⟩ (.int .i64 i)).setCell ⟨w.heap.size + 1, 2, none⟩ (.int .i64 g)).setCell ⟨w.heap.size + 1, 3, none⟩ (.int .i64 wh)).setCell ⟨w.heap.size + 1, 4, none⟩ (.int .i64 at_)).setCell ⟨w.heap.size + 1, 5, none⟩ (.int .i64 ln)).setCell ⟨w.heap.size + 1, 6, none⟩ (.string dt)).setCell ⟨w.heap.size + 1, 7, none⟩ (.bool su)).setCell ⟨w.heap.size + 1, 8, none⟩ (.int .i64 er)).setCell ⟨w.heap.size + 1, 9, none⟩ (.string tx)) = wf at *
    have r0 := scell0 HX.out.1 0 (v := .bool a) rfl
    have r1 := scell0 HX.out.1 1 (v := .int .i64 i) rfl
    have r2 := scell0 HX.out.1 2 (v := .int .i64 g) rfl
    have r3 := scell0 HX.out.1 3 (v := .int .i64 wh) rfl
    have r4 := scell0 HX.out.1 4 (v := .int .i64 at_) rfl
    have r5 := scell0 HX.out.1 5 (v := .int .i64 ln) rfl
    have r6 := scell0 HX.out.1 6 (v := .string dt) rfl
    have r7 := scell0 HX.out.1 7 (v := .bool su) rfl
    have r8 := scell0 HX.out.1 8 (v := .int .i64 er) rfl
    have r9 := scell0 HX.out.1 9 (v := .string tx) rfl
    refine bodyPost_ret (v := .tuple #[.agg #[.bool a, .int .i64 i, .int .i64 g, .int .i64 wh, .int .i64 at_, .int .i64 ln, .string dt, .bool su, .int .i64 er, .string tx], .bool true]) (by simp [results, Try.results54, go_sem, r0, r1, r2, r3, r4, r5, r6, r7, r8, r9]) rfl ?_
    exact ⟨rfl, HX.out.2⟩
  · have eo : o = none := by rw [← HO.out, hf]
    subst eo
    have z0 := set_same hx2 (i := 0) (v := .bool false) rfl
    have z1 := set_same hx2 (i := 1) (v := .int .i64 0) rfl
    have z2 := set_same hx2 (i := 2) (v := .int .i64 0) rfl
    have z3 := set_same hx2 (i := 3) (v := .int .i64 0) rfl
    have z4 := set_same hx2 (i := 4) (v := .int .i64 0) rfl
    have z5 := set_same hx2 (i := 5) (v := .int .i64 0) rfl
    have z6 := set_same hx2 (i := 6) (v := .string ⟨#[]⟩) rfl
    have z7 := set_same hx2 (i := 7) (v := .bool false) rfl
    have z8 := set_same hx2 (i := 8) (v := .int .i64 0) rfl
    have z9 := set_same hx2 (i := 9) (v := .string ⟨#[]⟩) rfl
    have s0 := scell0 hx2 0 (v := .bool false) rfl
    have s1 := scell0 hx2 1 (v := .int .i64 0) rfl
    have s2 := scell0 hx2 2 (v := .int .i64 0) rfl
    have s3 := scell0 hx2 3 (v := .int .i64 0) rfl
    have s4 := scell0 hx2 4 (v := .int .i64 0) rfl
    have s5 := scell0 hx2 5 (v := .int .i64 0) rfl
    have s6 := scell0 hx2 6 (v := .string ⟨#[]⟩) rfl
    have s7 := scell0 hx2 7 (v := .bool false) rfl
    have s8 := scell0 hx2 8 (v := .int .i64 0) rfl
    have s9 := scell0 hx2 9 (v := .string ⟨#[]⟩) rfl
    clear hf h2
    go_wp2_with fail
    (try simp only [Exit.inBlock, Exit.then])
    refine bodyPost_ret (v := .tuple #[.agg #[.bool false, .int .i64 0, .int .i64 0, .int .i64 0, .int .i64 0, .int .i64 0, .string ⟨#[]⟩, .bool false, .int .i64 0, .string ⟨#[]⟩], .bool false]) (by simp [results, Try.results54, go_sem, s0, s1, s2, s3, s4, s5, s6, s7, s8, s9]) rfl ?_
    exact ⟨rfl, HB.out.2⟩
end Go.Proofs.Ytadejhlljdcocaa
