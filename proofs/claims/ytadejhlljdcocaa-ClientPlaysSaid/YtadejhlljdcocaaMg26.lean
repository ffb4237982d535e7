/-
  Several texts, laid together.
-/
import Derived.Test.YtadejhlljdcocaaMg25
import Derived.Test.YtadejhlljdcocaaMg15
/-
  A history: what was told of a number.
-/

namespace Go.Proofs.Ytadejhlljdcocaa
open Go.RowKit
open Go.Maps (Keyed)
set_option linter.unusedVariables false
set_option linter.unusedSimpArgs false

/-- is it the answer of a number? -/
def isAns (id : Int) (e : EV) : Bool := e.ans && decide (e.id = id)
theorem evc (e : EV) : e.c.toArray = #[.bool e.ans, .int .i64 e.id, .int .i64 e.gate, .int .i64 e.what, .int .i64 e.at_, .int .i64 e.len, .string e.data, .bool e.sure, .int .i64 e.err, .string e.txt] := rfl
set_option maxHeartbeats 1600000 in
theorem cfind1 (id : Int) (x : EV) (q : Nat) (w : World) (hq : w.cell? ⟨q, 0, none⟩ = some (.int .i64 id)) (hqs : q < w.heap.size) :
    Calls Try.prog 108 (#[.agg x.c.toArray] ++ #[.pointer (some ⟨q, 0, none⟩)]) w fun e w' => e = .returned (.bool (isAns id x)) ∧ Below w.heap.size w w' := by
  obtain ⟨a, i, g, wh, at_, ln, dt, su, er, tx⟩ := x
  rw [evc]
  show Calls _ _ #[_, _] _ _
  have hb0 := (Below.refl w.heap.size w).alloc (Nat.le_refl _) (.cells #[.bool a, .int .i64 i, .int .i64 g, .int .i64 wh, .int .i64 at_, .int .i64 ln, .string dt, .bool su, .int .i64 er, .string tx] 104)
  have hy := heap_alloc_self w (.cells #[.bool a, .int .i64 i, .int .i64 g, .int .i64 wh, .int .i64 at_, .int .i64 ln, .string dt, .bool su, .int .i64 er, .string tx] 104)
  have hq1 := (hb0.cell (p := ⟨q, 0, none⟩) hqs).trans hq
  obtain ⟨p, hp⟩ : ∃ p, isAns id ⟨a, i, g, wh, at_, ln, dt, su, er, tx⟩ = p := ⟨_, rfl⟩
  rw [hp]
  simp only [isAns] at hp
  have HB := Lib.hid hb0
  clear hb0 hq
  go_enter Try.func108, Try.ntmps108
  go_upto_region 1 with fail
  generalize w.alloc (.cells #[.bool a, .int .i64 i, .int .i64 g, .int .i64 wh, .int .i64 at_, .int .i64 ln, .string dt, .bool su, .int .i64 er, .string tx] 104) = w1 at *
  have y0 := scell0 hy 0 (v := .bool a) rfl
  have y1 := scell0 hy 1 (v := .int .i64 i) rfl
  clear hy
  cases a
  · have : p = false := by simpa using hp.symm
    subst this
    clear hp
    go_wp2_with fail
    go_ret
    exact ⟨rfl, HB.out⟩
  · have hp2 : (i == id) = p := by rw [← hp]; by_cases h : i = id <;> simp [h]
    clear hp
    go_wp2_with fail
    go_ret
    exact ⟨by first | rfl | rw [hp2], HB.out⟩
theorem sr_ev {w : World} {a : Option Addr} {len cap : Nat} {E : List EV} (h : SR w (.slice a len cap) 10 len (evC E)) {j : Nat} {x : EV} (hx : E[j]? = some x) :
    ∃ b off, a = some ⟨b, off, none⟩ ∧ ∀ k v, x.c[k]? = some v → k < 10 → w.cell? ⟨b, off + j * 10 + k, none⟩ = some v := by
  obtain ⟨a', cap', he, h1, h2, h3, h4⟩ := h
  injection he with e1 e2 e3
  subst e1 e3
  have hj : j < E.length := (List.getElem?_eq_some_iff.1 hx).1
  rw [evC_length] at h3
  obtain ⟨b, off, rfl, hb, hc⟩ := h4.resolve_left (by omega)
  refine ⟨b, off, rfl, fun k v hk hk4 => ?_⟩
  rw [Nat.add_assoc]
  exact hc _ _ (evC_get E j x hx k v hk hk4)
theorem find_noneC {p : EV → Bool} {ts : List EV} {j : Nat} {t : EV} (h : (ts.take j).find? p = none) (ht : ts[j]? = some t) : (ts.take (j + 1)).find? p = if p t then some t else none := by
  rw [List.take_add_one, ht, List.find?_append, h]
  cases hpt : p t <;> simp [Option.toList, List.find?, hpt]
theorem find_hitC {p : EV → Bool} {ts : List EV} {j : Nat} {t : EV} (h : (ts.take j).find? p = none) (ht : ts[j]? = some t) (hp : p t = true) : ts.find? p = some t := by
  have e := find_noneC h ht
  rw [if_pos hp] at e
  rw [← List.take_append_drop (j + 1) ts, List.find?_append, e]
  rfl
set_option maxHeartbeats 3200000 in
set_option maxRecDepth 100000 in
theorem cidx (id : Int) (q : Nat) (E : List EV) (w : World) (v : Value) (hv : SR w v 10 E.length (evC E)) (hq : w.cell? ⟨q, 0, none⟩ = some (.int .i64 id)) (hqs : q < w.heap.size) :
    Calls Try.prog 107 #[v, .func (.func 108) #[] #[.pointer (some ⟨q, 0, none⟩)]] w fun e w' =>
      ((∃ (k : Nat) (x : EV), e = .returned (.int .i64 k) ∧ E[k]? = some x ∧ E.find? (isAns id) = some x) ∨ e = .returned (.int .i64 (-1)) ∧ E.find? (isAns id) = none) ∧ Below w.heap.size w w' := by
  obtain ⟨a, cap, rfl, hlc, hcm⟩ := hv.form
  unfold maxLen at hcm
  have eg : ∀ args w, (callFunc 108 args).run Try.prog w = .ok (.enter 108 args) w := fun _ _ => by rfl
  have HV := Lib.hid hv
  have HQ := Lib.hid (And.intro hq hqs)
  obtain ⟨n, hn⟩ : ∃ n, E.length = n := ⟨_, rfl⟩
  rw [hn] at HV hlc
  rw [hn]
  have HN := Lib.hid hn
  clear hv hq hqs hn
  go_enter Try.func107, Try.ntmps107
  go_wp2_with fail
  go_loopw [8] (fun i wr => ∃ j : Nat, j ≤ n ∧ i = .int .i64 j ∧ Hid (Below w.heap.size w wr ∧ (E.take j).find? (isAns id) = none)) (fun i _ => n - (intOf i).toNat)
  case atStart => exact ⟨0, Nat.zero_le _, rfl, Lib.hid ⟨Below.refl _ _, rfl⟩⟩
  case round =>
    obtain ⟨j, hj, rfl, HR⟩ := hrel
    by_cases hlt : j < n
    · obtain ⟨x, hx⟩ : ∃ x, E[j]? = some x := ⟨_, List.getElem?_eq_getElem (by have := HN.out; omega)⟩
      obtain ⟨b, off, rfl, hc⟩ := sr_ev (HV.out.below HR.out.1) hx
      have k0 := hc 0 _ rfl (by decide)
      have k1 := hc 1 _ rfl (by decide)
      have k2 := hc 2 _ rfl (by decide)
      have k3 := hc 3 _ rfl (by decide)
      have k4 := hc 4 _ rfl (by decide)
      have k5 := hc 5 _ rfl (by decide)
      have k6 := hc 6 _ rfl (by decide)
      have k7 := hc 7 _ rfl (by decide)
      have k8 := hc 8 _ rfl (by decide)
      have k9 := hc 9 _ rfl (by decide)
      rw [Nat.add_zero] at k0
      have cf := cfind1 id x q wr ((HR.out.1.cell (p := ⟨q, 0, none⟩) HQ.out.2).trans HQ.out.1) (Nat.lt_of_lt_of_le HQ.out.2 HR.out.1.size)
      rw [evc] at cf
      have hnx := find_noneC HR.out.2 hx
      have hht := find_hitC (p := isAns id) HR.out.2 hx
      have HX := Lib.hid (And.intro hnx (And.intro hht hx))
      obtain ⟨p, hp⟩ : ∃ p, isAns id x = p := ⟨_, rfl⟩
      rw [hp] at cf
      have HP := Lib.hid hp
      clear hc hnx hht hx hp
      go_wp2_with fail
      refine Calls.mono cf ?_
      rintro e w2 ⟨rfl, hb2⟩
      have HB := Lib.hid (HR.out.1.trans (hb2.mono HR.out.1.size))
      clear cf k0 k1 k2 k3 k4 k5 k6 k7 k8 k9 hb2
      cases p
      · have h2 := HX.out.1
        rw [HP.out] at h2
        have HF := Lib.hid (show Below w.heap.size w w2 ∧ (E.take (j + 1)).find? (isAns id) = none from ⟨HB.out, by simpa using h2⟩)
        clear h2
        go_wp2_with fail
        go_roundw
        case rel => exact ⟨j + 1, by omega, by go_num, HF⟩
        case measure => simp [intOf]; omega
      · go_wp2_with fail
        go_ret
        exact ⟨.inl ⟨j, x, rfl, HX.out.2.2, HX.out.2.1 HP.out⟩, HB.out⟩
    · obtain rfl : j = n := by omega
      go_wp2_with fail
      go_ret
      refine ⟨.inr ⟨rfl, ?_⟩, HR.out.1⟩
      have := HR.out.2
      rwa [← HN.out, List.take_length] at this
end Go.Proofs.Ytadejhlljdcocaa
/-
  A history: Find; of none; the waking call of layer 34.
-/



namespace Go.Proofs.Ytadejhlljdcocaa
open Go.RowKit
open Go.Maps (Keyed)
set_option linter.unusedVariables false
set_option linter.unusedSimpArgs false

def evZ : EV := ⟨false, 0, 0, 0, 0, 0, ⟨#[]⟩, false, 0, ⟨#[]⟩⟩
def FindPost (o : Option EV) (w : World) (e : Ending) (w' : World) : Prop := e = .returned (.tuple #[.agg (o.getD evZ).c.toArray, .bool o.isSome]) ∧ Below w.heap.size w w'
theorem set_same {w : World} {b i : Nat} {A : Array Value} {t : TypeId} {v : Value} (h : w.heap[b]? = some (.cells A t)) (hv : A[i]? = some v) : w.setCell ⟨b, i, none⟩ v = w := by
  have hh : (w.setCell ⟨b, i, none⟩ v).heap = w.heap := by
    apply Array.ext_getElem?
    intro k
    by_cases hk : k = b
    · subst hk
      rw [heap_set_self h i v, h]
      congr 2
      obtain ⟨hk, -⟩ := Array.getElem?_eq_some_iff.1 hv
      apply Array.ext_getElem?
      intro j
      rw [Array.getElem?_setIfInBounds]
      split
      · next e => subst e; exact hv.symm
      · rfl
    · exact heap_setCell_other _ _ _ _ hk
  have : (w.setCell ⟨b, i, none⟩ v) = { w with heap := (w.setCell ⟨b, i, none⟩ v).heap } := rfl
  rw [this, hh]
theorem set_ten {w : World} {b : Nat} {t : TypeId} {x0 x1 x2 x3 x4 x5 x6 x7 x8 x9 y0 y1 y2 y3 y4 y5 y6 y7 y8 y9 : Value} (h : w.heap[b]? = some (.cells #[x0, x1, x2, x3, x4, x5, x6, x7, x8, x9] t)) : ((((((((((w.setCell ⟨b, 0, none⟩ y0).setCell ⟨b, 1, none⟩ y1).setCell ⟨b, 2, none⟩ y2).setCell ⟨b, 3, none⟩ y3).setCell ⟨b, 4, none⟩ y4).setCell ⟨b, 5, none⟩ y5).setCell ⟨b, 6, none⟩ y6).setCell ⟨b, 7, none⟩ y7).setCell ⟨b, 8, none⟩ y8).setCell ⟨b, 9, none⟩ y9).heap[b]? = some (.cells #[y0, y1, y2, y3, y4, y5, y6, y7, y8, y9] t) := by
  have := (heap_set_self (heap_set_self (heap_set_self (heap_set_self (heap_set_self (heap_set_self (heap_set_self (heap_set_self (heap_set_self (heap_set_self h 0 y0) 1 y1) 2 y2) 3 y3) 4 y4) 5 y5) 6 y6) 7 y7) 8 y8) 9 y9)
  simpa using this
set_option maxHeartbeats 3200000 in
set_option maxRecDepth 100000 in
theorem cfind (id : Int) (w : World) (N p b : Nat) (sv : Value) (E : List EV) (n : Nat) (op : List Int) (h : Hist w N p b sv E n op) :
    Calls Try.prog 54 #[.pointer (some ⟨p, 0, none⟩), .int .i64 id] w (FindPost (E.find? (isAns id)) w) := by
  obtain ⟨D, h0, -⟩ := h.parts
  have hbA := (Below.refl w.heap.size w).alloc (Nat.le_refl _) (.cells #[.int .i64 id] 3)
  have hz : (w.alloc (.cells #[.int .i64 id] 3)).heap.size = w.heap.size + 1 := by simp
  have hbB := hbA.alloc hbA.size (.cells evZ.c.toArray 104)
  have hq := (Below.heap_alloc _ (.cells evZ.c.toArray 104) _ (lt_heap (heap_alloc_self w (.cells #[.int .i64 id] 3)))).trans (heap_alloc_self w (.cells #[.int .i64 id] 3))
  have hy := heap_alloc_self (w.alloc (.cells #[.int .i64 id] 3)) (.cells evZ.c.toArray 104)
  rw [hz] at hy
  have h1 := h0.below hbB
  obtain ⟨a, cap, rfl, hlc, hcm⟩ := (SR.owns h0.ev).form
  unfold maxLen at hcm
  obtain ⟨o, ho⟩ : ∃ o, E.find? (isAns id) = o := ⟨_, rfl⟩
  rw [ho]
  have HO := Lib.hid ho
  obtain ⟨m, hm⟩ : ∃ m, E.length = m := ⟨_, rfl⟩
  rw [hm] at hlc
  have HM := Lib.hid hm
  rw [evZ, evc] at *
  simp only at *
  clear h h0 hbA hz ho
  go_enter Try.func54, Try.ntmps54
  go_upto_region 3 with fail
  generalize (w.alloc (.cells #[.int .i64 id] 3)).alloc (.cells #[.bool false, .int .i64 0, .int .i64 0, .int .i64 0, .int .i64 0, .int .i64 0, .string ⟨#[]⟩, .bool false, .int .i64 0, .string ⟨#[]⟩] 104) = w1 at *
  obtain ⟨c0, c1, c2, fz⟩ := h1.cells
  have hq0 := scell0 hq 0 (v := .int .i64 id) rfl
  have ci := cidx id w.heap.size E w1 _ (SR.owns h1.ev) hq0 (lt_heap hq)
  rw [hm] at ci c0
  have HH := Lib.hid (And.intro h1 (And.intro hy hbB))
  clear h1 hq hy hbB hm
  go_wp2_with fail
  refine Calls.mono ci ?_
  rintro e w2 ⟨he, hb2⟩
  have hx2 := below_at hb2 (lt_heap HH.out.2.1) HH.out.2.1
  have h2 := HH.out.1.below hb2
  have HB := Lib.hid (And.intro h2 (HH.out.2.2.trans (hb2.mono HH.out.2.2.size)))
  clear ci c0 c1 c2 fz hq0 hb2
  have fz2 := sfrz0 hx2
  rcases he with ⟨k, x, rfl, hk, hf⟩ | ⟨rfl, hf⟩
  · obtain ⟨d0, d1, d2, -⟩ := h2.cells
    obtain ⟨b6, off, rfl, hc⟩ := sr_ev (SR.owns h2.ev) hk
    have k0 := hc 0 _ rfl (by decide)
    have k1 := hc 1 _ rfl (by decide)
    have k2 := hc 2 _ rfl (by decide)
    have k3 := hc 3 _ rfl (by decide)
    have k4 := hc 4 _ rfl (by decide)
    have k5 := hc 5 _ rfl (by decide)
    have k6 := hc 6 _ rfl (by decide)
    have k7 := hc 7 _ rfl (by decide)
    have k8 := hc 8 _ rfl (by decide)
    have k9 := hc 9 _ rfl (by decide)
    rw [Nat.add_zero] at k0
    have hkl : k < m := by have := (List.getElem?_eq_some_iff.1 hk).1; have := HM.out; omega
    have eo : o = some x := by rw [← HO.out, hf]
    subst eo
    rw [HM.out] at d0
    have s0 := scell0 hx2 0 (v := .bool false) rfl
    have s1 := scell0 hx2 1 (v := .int .i64 0) rfl
    have s2 := scell0 hx2 2 (v := .int .i64 0) rfl
    have s3 := scell0 hx2 3 (v := .int .i64 0) rfl
    have s4 := scell0 hx2 4 (v := .int .i64 0) rfl
    have s5 := scell0 hx2 5 (v := .int .i64 0) rfl
    have s6 := scell0 hx2 6 (v := .string ⟨#[]⟩) rfl
    have s7 := scell0 hx2 7 (v := .bool false) rfl
    have s8 := scell0 hx2 8 (v := .int .i64 0) rfl
    have s9 := scell0 hx2 9 (v := .string ⟨#[]⟩) rfl
    clear hc h2 hf hk
    obtain ⟨a, i, g, wh, at_, ln, dt, su, er, tx⟩ := x
    have HX := Lib.hid (And.intro (set_ten hx2 (y0 := .bool a) (y1 := .int .i64 i) (y2 := .int .i64 g) (y3 := .int .i64 wh) (y4 := .int .i64 at_) (y5 := .int .i64 ln) (y6 := .string dt) (y7 := .bool su) (y8 := .int .i64 er) (y9 := .string tx)) (((((((((((HB.out.2.setCell (p := ⟨w.heap.size + 1, 0, none⟩) (Nat.le_succ _) (.bool a)).setCell (p := ⟨w.heap.size + 1, 1, none⟩) (Nat.le_succ _) (.int .i64 i)).setCell (p := ⟨w.heap.size + 1, 2, none⟩) (Nat.le_succ _) (.int .i64 g)).setCell (p := ⟨w.heap.size + 1, 3, none⟩) (Nat.le_succ _) (.int .i64 wh)).setCell (p := ⟨w.heap.size + 1, 4, none⟩) (Nat.le_succ _) (.int .i64 at_)).setCell (p := ⟨w.heap.size + 1, 5, none⟩) (Nat.le_succ _) (.int .i64 ln)).setCell (p := ⟨w.heap.size + 1, 6, none⟩) (Nat.le_succ _) (.string dt)).setCell (p := ⟨w.heap.size + 1, 7, none⟩) (Nat.le_succ _) (.bool su)).setCell (p := ⟨w.heap.size + 1, 8, none⟩) (Nat.le_succ _) (.int .i64 er)).setCell (p := ⟨w.heap.size + 1, 9, none⟩) (Nat.le_succ _) (.string tx))))
    clear hx2
    go_wp2_with fail
    (try simp only [Exit.inBlock, Exit.then])
    generalize ((((((((((w2.setCell ⟨w.heap.size + 1, 0, none⟩ (.bool a)).setCell ⟨w.heap.size + 1, 1, none⟩ (.int .i64 i)).setCell ⟨w.heap.size + 1, 2, none⟩ (.int .i64 g)).setCell ⟨w.heap.size + 1, 3, none⟩ (.int .i64 wh)).setCell ⟨w.heap.size + 1, 4, none⟩ (.int .i64 at_)).setCell ⟨w.heap.size + 1, 5, none⟩ (.int .i64 ln)).setCell ⟨w.heap.size + 1, 6, none⟩ (.string dt)).setCell ⟨w.heap.size + 1, 7, none⟩ (.bool su)).setCell ⟨w.heap.size + 1, 8, none⟩ (.int .i64 er)).setCell ⟨w.heap.size + 1, 9, none⟩ (.string tx)) = wf at *
    have r0 := scell0 HX.out.1 0 (v := .bool a) rfl
    have r1 := scell0 HX.out.1 1 (v := .int .i64 i) rfl
    have r2 := scell0 HX.out.1 2 (v := .int .i64 g) rfl
    have r3 := scell0 HX.out.1 3 (v := .int .i64 wh) rfl
    have r4 := scell0 HX.out.1 4 (v := .int .i64 at_) rfl
    have r5 := scell0 HX.out.1 5 (v := .int .i64 ln) rfl
    have r6 := scell0 HX.out.1 6 (v := .string dt) rfl
    have r7 := scell0 HX.out.1 7 (v := .bool su) rfl
    have r8 := scell0 HX.out.1 8 (v := .int .i64 er) rfl
    have r9 := scell0 HX.out.1 9 (v := .string tx) rfl
    refine bodyPost_ret (v := .tuple #[.agg #[.bool a, .int .i64 i, .int .i64 g, .int .i64 wh, .int .i64 at_, .int .i64 ln, .string dt, .bool su, .int .i64 er, .string tx], .bool true]) (by simp [results, Try.results54, go_sem, r0, r1, r2, r3, r4, r5, r6, r7, r8, r9]) rfl ?_
    exact ⟨rfl, HX.out.2⟩
  · have eo : o = none := by rw [← HO.out, hf]
    subst eo
    have z0 := set_same hx2 (i := 0) (v := .bool false) rfl
    have z1 := set_same hx2 (i := 1) (v := .int .i64 0) rfl
    have z2 := set_same hx2 (i := 2) (v := .int .i64 0) rfl
    have z3 := set_same hx2 (i := 3) (v := .int .i64 0) rfl
    have z4 := set_same hx2 (i := 4) (v := .int .i64 0) rfl
    have z5 := set_same hx2 (i := 5) (v := .int .i64 0) rfl
    have z6 := set_same hx2 (i := 6) (v := .string ⟨#[]⟩) rfl
    have z7 := set_same hx2 (i := 7) (v := .bool false) rfl
    have z8 := set_same hx2 (i := 8) (v := .int .i64 0) rfl
    have z9 := set_same hx2 (i := 9) (v := .string ⟨#[]⟩) rfl
    have s0 := scell0 hx2 0 (v := .bool false) rfl
    have s1 := scell0 hx2 1 (v := .int .i64 0) rfl
    have s2 := scell0 hx2 2 (v := .int .i64 0) rfl
    have s3 := scell0 hx2 3 (v := .int .i64 0) rfl
    have s4 := scell0 hx2 4 (v := .int .i64 0) rfl
    have s5 := scell0 hx2 5 (v := .int .i64 0) rfl
    have s6 := scell0 hx2 6 (v := .string ⟨#[]⟩) rfl
    have s7 := scell0 hx2 7 (v := .bool false) rfl
    have s8 := scell0 hx2 8 (v := .int .i64 0) rfl
    have s9 := scell0 hx2 9 (v := .string ⟨#[]⟩) rfl
    clear hf h2
    go_wp2_with fail
    (try simp only [Exit.inBlock, Exit.then])
    refine bodyPost_ret (v := .tuple #[.agg #[.bool false, .int .i64 0, .int .i64 0, .int .i64 0, .int .i64 0, .int .i64 0, .string ⟨#[]⟩, .bool false, .int .i64 0, .string ⟨#[]⟩], .bool false]) (by simp [results, Try.results54, go_sem, s0, s1, s2, s3, s4, s5, s6, s7, s8, s9]) rfl ?_
    exact ⟨rfl, HB.out.2⟩
end Go.Proofs.Ytadejhlljdcocaa
/-
  No history; the waking call of layer 34; ClientMost's walk.
-/


namespace Go.Proofs.Ytadejhlljdcocaa
open Go.RowKit
open Go.Maps (Keyed)
set_option linter.unusedVariables false
set_option linter.unusedSimpArgs false

theorem cask_nil (g what at_ len : Int) (data : ByteArray) (sure : Bool) (w : World) :
    Calls Try.prog 50 #[.pointer none, .int .i64 g, .agg #[.int .i64 what, .int .i64 at_, .int .i64 len, .string data, .bool sure]] w fun e w' => e = .returned (.int .i64 0) ∧ Below w.heap.size w w' := by
  have HB := Lib.hid ((Below.refl w.heap.size w).alloc (Nat.le_refl _) (.cells #[.int .i64 what, .int .i64 at_, .int .i64 len, .string data, .bool sure] 96))
  go_enter Try.func50, Try.ntmps50
  go_wp2_with fail
  go_ret
  exact ⟨rfl, HB.out⟩
theorem ctell_nil (g id err : Int) (data : ByteArray) (w : World) :
    Calls Try.prog 51 #[.pointer none, .int .i64 g, .agg #[.int .i64 id, .int .i64 err, .string data]] w fun e w' => e = .returned (.bool false) ∧ Below w.heap.size w w' := by
  have HB := Lib.hid ((Below.refl w.heap.size w).alloc (Nat.le_refl _) (.cells #[.int .i64 id, .int .i64 err, .string data] 99))
  go_enter Try.func51, Try.ntmps51
  go_wp2_with fail
  go_ret
  exact ⟨rfl, HB.out⟩
theorem call_nil (w : World) : Calls Try.prog 52 #[.pointer none] w fun e w' => e = .returned (.slice none 0 0) ∧ Below w.heap.size w w' := by
  go_enter Try.func52, Try.ntmps52
  go_wp2_with fail
  go_ret
  exact ⟨rfl, Below.refl _ _⟩
theorem copen_nil (w : World) : Calls Try.prog 53 #[.pointer none] w fun e w' => e = .returned (.slice none 0 0) ∧ Below w.heap.size w w' := by
  go_enter Try.func53, Try.ntmps53
  go_wp2_with fail
  go_ret
  exact ⟨rfl, Below.refl _ _⟩
set_option maxHeartbeats 1600000 in
theorem cfind_nil (id : Int) (w : World) : Calls Try.prog 54 #[.pointer none, .int .i64 id] w (FindPost none w) := by
  have hbA := (Below.refl w.heap.size w).alloc (Nat.le_refl _) (.cells #[.int .i64 id] 3)
  have hz : (w.alloc (.cells #[.int .i64 id] 3)).heap.size = w.heap.size + 1 := by simp
  have hbB := hbA.alloc hbA.size (.cells evZ.c.toArray 104)
  have hx2 := heap_alloc_self (w.alloc (.cells #[.int .i64 id] 3)) (.cells evZ.c.toArray 104)
  rw [hz] at hx2
  rw [evZ, evc] at *
  simp only at *
  have HB := Lib.hid hbB
  clear hbA hz hbB
  go_enter Try.func54, Try.ntmps54
  go_upto_region 1 with fail
  generalize (w.alloc (.cells #[.int .i64 id] 3)).alloc (.cells #[.bool false, .int .i64 0, .int .i64 0, .int .i64 0, .int .i64 0, .int .i64 0, .string ⟨#[]⟩, .bool false, .int .i64 0, .string ⟨#[]⟩] 104) = w2 at *
  have fz2 := sfrz0 hx2
  have z0 := set_same hx2 (i := 0) (v := .bool false) rfl
  have z1 := set_same hx2 (i := 1) (v := .int .i64 0) rfl
  have z2 := set_same hx2 (i := 2) (v := .int .i64 0) rfl
  have z3 := set_same hx2 (i := 3) (v := .int .i64 0) rfl
  have z4 := set_same hx2 (i := 4) (v := .int .i64 0) rfl
  have z5 := set_same hx2 (i := 5) (v := .int .i64 0) rfl
  have z6 := set_same hx2 (i := 6) (v := .string ⟨#[]⟩) rfl
  have z7 := set_same hx2 (i := 7) (v := .bool false) rfl
  have z8 := set_same hx2 (i := 8) (v := .int .i64 0) rfl
  have z9 := set_same hx2 (i := 9) (v := .string ⟨#[]⟩) rfl
  have s0 := scell0 hx2 0 (v := .bool false) rfl
  have s1 := scell0 hx2 1 (v := .int .i64 0) rfl
  have s2 := scell0 hx2 2 (v := .int .i64 0) rfl
  have s3 := scell0 hx2 3 (v := .int .i64 0) rfl
  have s4 := scell0 hx2 4 (v := .int .i64 0) rfl
  have s5 := scell0 hx2 5 (v := .int .i64 0) rfl
  have s6 := scell0 hx2 6 (v := .string ⟨#[]⟩) rfl
  have s7 := scell0 hx2 7 (v := .bool false) rfl
  have s8 := scell0 hx2 8 (v := .int .i64 0) rfl
  have s9 := scell0 hx2 9 (v := .string ⟨#[]⟩) rfl
  go_wp2_with fail
  (try simp only [Exit.inBlock, Exit.then])
  refine bodyPost_ret (v := .tuple #[.agg #[.bool false, .int .i64 0, .int .i64 0, .int .i64 0, .int .i64 0, .int .i64 0, .string ⟨#[]⟩, .bool false, .int .i64 0, .string ⟨#[]⟩], .bool false]) (by simp [results, Try.results54, go_sem, s0, s1, s2, s3, s4, s5, s6, s7, s8, s9]) rfl ?_
  exact ⟨rfl, HB.out⟩
set_option maxHeartbeats 3200000 in
set_option maxRecDepth 100000 in
theorem awake34 (w : World) : Calls Try.prog 55 #[] w fun e w' => e = .returned (.bool true) ∧ Below w.heap.size w w' := by
  go_enter Try.func55, Try.ntmps55
  go_wp2_with fail
  refine Calls.mono (cnew _) ?_
  rintro e w1 ⟨p, b, rfl, h1, hb1⟩
  have c2 : Calls Try.prog 50 #[.pointer (some ⟨p, 0, none⟩), .int .i64 5, .agg #[.int .i64 3, .int .i64 0, .int .i64 0, .string ⟨#[]⟩, .bool false]] w1 fun e w' => e = .returned (.int .i64 1) ∧ ∃ sv', Hist w' w.heap.size p b sv' [⟨false, 1, 5, 3, 0, 0, ⟨#[]⟩, false, 0, ⟨#[]⟩⟩] 1 [1] ∧ HKept w1 w' p b (.slice none 0 0) sv' :=
    cask 5 3 0 0 ⟨#[]⟩ false w1 w.heap.size p b _ [] 0 [] h1 (by decide) (by decide) hb1.size
  have H1 := Lib.hid (And.intro h1 hb1)
  clear h1 hb1
  go_wp2_with fail
  refine Calls.mono c2 ?_
  rintro e w2 ⟨rfl, s2, h2, hk2⟩
  have H2 := Lib.hid (And.intro h2 (H1.out.2.trans (HKept.below H1.out.1 hk2 H1.out.2.size)))
  have c3 : Calls Try.prog 51 #[.pointer (some ⟨p, 0, none⟩), .int .i64 5, .agg #[.int .i64 1, .int .i64 0, .string ⟨#[]⟩]] w2 fun e w' => e = .returned (.bool true) ∧ ∃ sv', Hist w' w.heap.size p b sv' [⟨false, 1, 5, 3, 0, 0, ⟨#[]⟩, false, 0, ⟨#[]⟩⟩, ⟨true, 1, 5, 0, 0, 0, ⟨#[]⟩, false, 0, ⟨#[]⟩⟩] 1 [] ∧ HKept w2 w' p b s2 sv' :=
    ctell 5 1 0 ⟨#[]⟩ w2 w.heap.size p b _ _ 1 [1] h2 (by decide) (by decide) (by decide) H2.out.2.size
  clear h2 hk2 c2 H1
  go_wp2_with fail
  refine Calls.mono c3 ?_
  rintro e w3 ⟨rfl, s3, h3, hk3⟩
  have H3 := Lib.hid (And.intro h3 (H2.out.2.trans (HKept.below H2.out.1 hk3 H2.out.2.size)))
  have c4 : Calls Try.prog 54 #[.pointer (some ⟨p, 0, none⟩), .int .i64 1] w3 fun e w' => e = .returned (.tuple #[.agg #[.bool true, .int .i64 1, .int .i64 5, .int .i64 0, .int .i64 0, .int .i64 0, .string ⟨#[]⟩, .bool false, .int .i64 0, .string ⟨#[]⟩], .bool true]) ∧ Below w3.heap.size w3 w' := cfind 1 w3 _ p b _ _ 1 [] h3
  clear h3 hk3 c3 H2
  go_wp2_with fail
  refine Calls.mono c4 ?_
  rintro e w4 ⟨rfl, hb4⟩
  have hb5 := hb4.alloc hb4.size (.cells #[.bool true, .int .i64 1, .int .i64 5, .int .i64 0, .int .i64 0, .int .i64 0, .string ⟨#[]⟩, .bool false, .int .i64 0, .string ⟨#[]⟩] 104)
  have hy := heap_alloc_self w4 (.cells #[.bool true, .int .i64 1, .int .i64 5, .int .i64 0, .int .i64 0, .int .i64 0, .string ⟨#[]⟩, .bool false, .int .i64 0, .string ⟨#[]⟩] 104)
  have H4 := Lib.hid (And.intro (H3.out.1.below hb5) (H3.out.2.trans (hb5.mono H3.out.2.size)))
  clear hb4 hb5 c4 H3
  go_upto_region 5 with fail
  generalize w4.alloc (.cells #[.bool true, .int .i64 1, .int .i64 5, .int .i64 0, .int .i64 0, .int .i64 0, .string ⟨#[]⟩, .bool false, .int .i64 0, .string ⟨#[]⟩] 104) = w5 at *
  have y0 := scell0 hy 0 (v := .bool true) rfl
  have c5 := call_ w5 _ p b _ _ 1 [] H4.out.1 (by decide)
  clear hy
  go_wp2_with fail
  refine Calls.mono c5 ?_
  rintro e w6 ⟨v6, rfl, ho6, hb6⟩
  obtain ⟨a6, k6, rfl, -, -⟩ := (SR.owns ho6).form
  have H6 := Lib.hid (And.intro (H4.out.1.below hb6) (H4.out.2.trans (hb6.mono H4.out.2.size)))
  have c6 := copen w6 _ p b _ _ 1 [] H6.out.1 (by decide)
  clear ho6 hb6 c5 H4 y0
  go_wp2_with fail
  refine Calls.mono c6 ?_
  rintro e w7 ⟨v7, rfl, ho7, hb7⟩
  obtain ⟨a7, k7, rfl, -, -⟩ := (SR.owns ho7).form
  have HB := Lib.hid (H6.out.2.trans (hb7.mono H6.out.2.size))
  clear ho7 hb7 c6
  go_wp2_with fail
  go_ret
  exact ⟨rfl, HB.out⟩
end Go.Proofs.Ytadejhlljdcocaa
