/-
  Where a command is: rlog.Log.Has.
-/
import Derived.Test.YtfgmeeponipjeaaRln
namespace Go.Proofs.Ytfgmeeponipjeaa
open Go.RowKit
set_option linter.unusedVariables false
set_option linter.unusedSimpArgs false

/-- does an entry hold this command -/
def isK (x : Int) (c : CF) (e : EN) : Bool := e.x == x && sameC e.c c
theorem sameE_self (e : EN) (x : Int) (c : CF) : sameE e.t e.x e.c e.t x c = isK x c e := by simp [sameE, isK]
set_option maxHeartbeats 1600000 in
theorem hasclo (e : EN) (x : Int) (c : CF) (a1 a2 : Option Addr) (q1 q2 : Nat) (h : Nat) (w : World) (hh : w.heap[h]? = some (.cells #[.int .i64 x, .int .i64 c.e, .int .i64 c.b, .int .i64 c.k, .slice a1 c.M.length q1, .slice a2 c.C.length q2] 27)) (he : e.at_ w) (hc : CFat c w (.slice a1 c.M.length q1) (.slice a2 c.C.length q2)) :
    Calls Try.prog 45 #[.agg #[.int .i64 e.t, .int .i64 e.x, .int .i64 e.c.e, .int .i64 e.c.b, .int .i64 e.c.k, .slice e.a1 e.c.M.length e.q1, .slice e.a2 e.c.C.length e.q2], .pointer (some ⟨h, 0, none⟩)] w fun ev w' => ev = .returned (.bool (isK x c e)) ∧ Below w.heap.size w w' := by
  have hx := heap_alloc_self w (.cells #[.int .i64 e.t, .int .i64 e.x, .int .i64 e.c.e, .int .i64 e.c.b, .int .i64 e.c.k, .slice e.a1 e.c.M.length e.q1, .slice e.a2 e.c.C.length e.q2] 43)
  have hb : Below w.heap.size w (w.alloc (.cells #[.int .i64 e.t, .int .i64 e.x, .int .i64 e.c.e, .int .i64 e.c.b, .int .i64 e.c.k, .slice e.a1 e.c.M.length e.q1, .slice e.a2 e.c.C.length e.q2] 43)) := (Below.refl _ _).alloc (Nat.le_refl _) _
  have hy := below_at hb (lt_heap hh) hh
  have he1 := EN.at_.below he hb
  have hc1 := CFat.below hc hb
  go_enter Try.func45, Try.ntmps45
  go_upto_region 1 with fail
  generalize w.alloc (.cells #[.int .i64 e.t, .int .i64 e.x, .int .i64 e.c.e, .int .i64 e.c.b, .int .i64 e.c.k, .slice e.a1 e.c.M.length e.q1, .slice e.a2 e.c.C.length e.q2] 43) = w1 at *
  have d0 := cell_atD hx 0 (v := .int .i64 e.t) rfl
  have d1 := cell_atD hx 1 (v := .int .i64 e.x) rfl
  have d2 := cell_atD hx 2 (v := .int .i64 e.c.e) rfl
  have d3 := cell_atD hx 3 (v := .int .i64 e.c.b) rfl
  have d4 := cell_atD hx 4 (v := .int .i64 e.c.k) rfl
  have d5 := cell_atD hx 5 (v := .slice e.a1 e.c.M.length e.q1) rfl
  have d6 := cell_atD hx 6 (v := .slice e.a2 e.c.C.length e.q2) rfl
  have k0 := cell_atD hy 0 (v := .int .i64 x) rfl
  have k1 := cell_atD hy 1 (v := .int .i64 c.e) rfl
  have k2 := cell_atD hy 2 (v := .int .i64 c.b) rfl
  have k3 := cell_atD hy 3 (v := .int .i64 c.k) rfl
  have k4 := cell_atD hy 4 (v := .slice a1 c.M.length q1) rfl
  have k5 := cell_atD hy 5 (v := .slice a2 c.C.length q2) rfl
  have cs := esameE e.t e.x e.c e.t x c e.a1 e.a2 a1 a2 e.q1 e.q2 q1 q2 w1 he1 hc1
  rw [sameE_self] at cs
  have HB := Lib.hid hb
  clear hx hb hy hh he1 hc1 he hc
  obtain ⟨r, hr⟩ : ∃ r, r = isK x c e := ⟨_, rfl⟩
  rw [← hr] at cs
  have HR := Lib.hid hr
  clear hr
  go_wp2_with fail
  refine Calls.mono cs ?_
  rintro ev w2 ⟨rfl, hb2⟩
  have HB2 := Lib.hid (HB.out.trans (hb2.mono HB.out.size))
  clear hb2
  go_wp2_with fail
  go_ret
  exact ⟨ret_bool HR.out, HB2.out⟩
/-- none of the first j holds this command -/
def NoneYet (es : List EN) (x : Int) (c : CF) (j : Nat) : Prop := ∀ k, k < j → ∀ e, es[k]? = some e → isK x c e = false
theorem noneYet_next {es : List EN} {x : Int} {c : CF} {j : Nat} {e : EN} (h : NoneYet es x c j) (hj : es[j]? = some e) (he : isK x c e = false) : NoneYet es x c (j + 1) := by
  intro k hk f hf
  by_cases hkj : k = j
  · subst hkj
    rw [hj] at hf
    cases hf
    exact he
  · exact h k (by omega) f hf
/-- the first place that holds this command -/
def ixE (x : Int) (c : CF) (es : List EN) : Int := match es.findIdx? (isK x c) with | some i => i | none => -1
theorem ixE_at {es : List EN} {x : Int} {c : CF} {j : Nat} {e : EN} (h : NoneYet es x c j) (hj : es[j]? = some e) (he : isK x c e = true) : ixE x c es = j := by
  unfold ixE
  have hl := (List.getElem?_eq_some_iff.1 hj).1
  have : es.findIdx? (isK x c) = some j := by
    rw [List.findIdx?_eq_some_iff_getElem]
    refine ⟨hl, ?_, fun k hk => ?_⟩
    · rw [(List.getElem?_eq_some_iff.1 hj).2]; exact he
    · have := h k hk es[k] (List.getElem?_eq_getElem (by omega))
      simp [this]
  rw [this]
theorem ixE_none {es : List EN} {x : Int} {c : CF} (h : NoneYet es x c es.length) : ixE x c es = -1 := by
  unfold ixE
  have : es.findIdx? (isK x c) = none := by
    rw [List.findIdx?_eq_none_iff]
    intro e he
    obtain ⟨k, hk, rfl⟩ := List.mem_iff_getElem.1 he
    exact h k hk _ (List.getElem?_eq_getElem hk)
  rw [this]
set_option maxHeartbeats 3200000 in
set_option maxRecDepth 100000 in
theorem indexE (es : List EN) (x : Int) (c : CF) (a1 a2 : Option Addr) (q1 q2 : Nat) (h : Nat) (w : World) (v : Value) (hv : Elts w EN.cells 7 v es) (hes : ∀ e ∈ es, e.at_ w) (hh : w.heap[h]? = some (.cells #[.int .i64 x, .int .i64 c.e, .int .i64 c.b, .int .i64 c.k, .slice a1 c.M.length q1, .slice a2 c.C.length q2] 27)) (hc : CFat c w (.slice a1 c.M.length q1) (.slice a2 c.C.length q2)) :
    Calls Try.prog 44 #[v, .func (.func 45) #[] #[.pointer (some ⟨h, 0, none⟩)]] w fun ev w' => ev = .returned (.int .i64 (ixE x c es)) ∧ Below w.heap.size w w' := by
  obtain ⟨av, cap, rfl, hlc, hcm, hel⟩ := hv
  have hel' : Elts w EN.cells 7 (.slice av es.length cap) es := ⟨av, cap, rfl, hlc, hcm, hel⟩
  have HV := Lib.hid (And.intro hel' (And.intro hes (And.intro hh hc)))
  obtain ⟨n, hn⟩ : ∃ n, es.length = n := ⟨_, rfl⟩
  rw [hn] at hlc
  rw [hn]
  rw [hn] at HV
  have HN := Lib.hid hn
  unfold maxLen at hcm
  clear hes hn hel hel' hh hc
  have eg : ∀ args w, (callFunc 45 args).run Try.prog w = .ok (.enter 45 args) w := fun _ _ => by rfl
  go_enter Try.func44, Try.ntmps44
  go_wp2_with fail
  go_loopw [8] (fun i wr => ∃ (j : Nat), j ≤ n ∧ i = .int .i64 j ∧ Hid (NoneYet es x c j) ∧ Hid (Below w.heap.size w wr)) (fun i _ => n - (intOf i).toNat)
  case atStart => exact ⟨0, Nat.zero_le _, rfl, Lib.hid (fun k hk => absurd hk (by omega)), Lib.hid (Below.refl _ _)⟩
  case round =>
    obtain ⟨j, hj, rfl, HL, HB⟩ := hrel
    by_cases hlt : j < n
    · skip
      obtain ⟨e, hej⟩ : ∃ e, es[j]? = some e := ⟨_, List.getElem?_eq_getElem (by have := HN.out; omega)⟩
      have hat := HV.out.2.1 e (List.mem_of_getElem? hej)
      obtain ⟨-, b, off, rfl, hbl, hcl⟩ := HV.out.1.at_ hej
      have k0 : wr.cell? ⟨b, off + j * 7, none⟩ = some (.int .i64 e.t) := (HB.out.cell (p := ⟨b, off + j * 7, none⟩) hbl).trans (hcl 0 _ rfl)
      have k1 : wr.cell? ⟨b, off + j * 7 + 1, none⟩ = some (.int .i64 e.x) := (HB.out.cell (p := ⟨b, off + j * 7 + 1, none⟩) hbl).trans (hcl 1 _ rfl)
      have k2 : wr.cell? ⟨b, off + j * 7 + 2, none⟩ = some (.int .i64 e.c.e) := (HB.out.cell (p := ⟨b, off + j * 7 + 2, none⟩) hbl).trans (hcl 2 _ rfl)
      have k3 : wr.cell? ⟨b, off + j * 7 + 3, none⟩ = some (.int .i64 e.c.b) := (HB.out.cell (p := ⟨b, off + j * 7 + 3, none⟩) hbl).trans (hcl 3 _ rfl)
      have k4 : wr.cell? ⟨b, off + j * 7 + 4, none⟩ = some (.int .i64 e.c.k) := (HB.out.cell (p := ⟨b, off + j * 7 + 4, none⟩) hbl).trans (hcl 4 _ rfl)
      have k5 : wr.cell? ⟨b, off + j * 7 + 5, none⟩ = some (.slice e.a1 e.c.M.length e.q1) := (HB.out.cell (p := ⟨b, off + j * 7 + 5, none⟩) hbl).trans (hcl 5 _ rfl)
      have k6 : wr.cell? ⟨b, off + j * 7 + 6, none⟩ = some (.slice e.a2 e.c.C.length e.q2) := (HB.out.cell (p := ⟨b, off + j * 7 + 6, none⟩) hbl).trans (hcl 6 _ rfl)
      have cc := hasclo e x c a1 a2 q1 q2 h wr (below_at HB.out (lt_heap HV.out.2.2.1) HV.out.2.2.1) (hat.below HB.out) (CFat.below HV.out.2.2.2 HB.out)
      have HJ := Lib.hid hej
      clear hat hcl hej hbl
      rcases hr : isK x c e
      · rw [hr] at cc
        have HR := Lib.hid hr
        clear hr
        go_wp2_with fail
        refine Calls.mono cc ?_
        rintro ev w2 ⟨rfl, hb2⟩
        have HB2 := Lib.hid (HB.out.trans (hb2.mono HB.out.size))
        have HL2 := Lib.hid (noneYet_next HL.out HJ.out HR.out)
        clear hb2 cc k0 k1 k2 k3 k4 k5 k6
        go_wp2_with fail
        go_roundw
        case rel => exact ⟨j + 1, by omega, by go_num, HL2, HB2⟩
        case measure => simp [intOf]; omega
      · rw [hr] at cc
        have HR := Lib.hid hr
        clear hr
        go_wp2_with fail
        refine Calls.mono cc ?_
        rintro ev w2 ⟨rfl, hb2⟩
        have HB2 := Lib.hid (HB.out.trans (hb2.mono HB.out.size))
        clear hb2 cc k0 k1 k2 k3 k4 k5 k6
        go_wp2_with fail
        go_ret
        exact ⟨by rw [ixE_at HL.out HJ.out HR.out]; rfl, HB2.out⟩
    · obtain rfl : j = n := by omega
      go_wp2_with fail
      go_ret
      exact ⟨by rw [ixE_none (by have := HL.out; rw [← HN.out] at this; exact this)]; rfl, HB.out⟩
theorem LogE.elts {w : World} {N g : Nat} {v : Value} {es : List EN} (h : LogE w N g v es) : Elts w EN.cells 7 v es := by
  obtain ⟨a, cap, rfl, h1, h2, h3, h4⟩ := SR.owns h.row
  refine ⟨a, cap, rfl, h1, h2, h4.imp id ?_⟩
  rintro ⟨b, off, rfl, hb, hc⟩
  refine ⟨b, off, rfl, hb, fun j e hj k u hk => ?_⟩
  have hk7 : k < 7 := by
    have := (List.getElem?_eq_some_iff.1 hk).1
    simpa [EN.cells] using this
  have := hc (j * 7 + k) u (enCells_get es j e hj k u hk hk7)
  rwa [← Nat.add_assoc] at this
theorem ixE_le (x : Int) (c : CF) (es : List EN) : -1 ≤ ixE x c es ∧ ixE x c es < es.length := by
  unfold ixE
  rcases h : es.findIdx? (isK x c) with _ | i
  · simp; omega
  · rw [List.findIdx?_eq_some_iff_getElem] at h
    obtain ⟨h1, -⟩ := h
    simp; omega
set_option maxHeartbeats 3200000 in
set_option maxRecDepth 100000 in
theorem rhasE (x : Int) (c : CF) (a1 a2 : Option Addr) (q1 q2 : Nat) (w : World) (N g : Nat) (v : Value) (es : List EN) (hL : LogE w N g v es) (hl : es.length ≤ 1000) (hc : CFat c w (.slice a1 c.M.length q1) (.slice a2 c.C.length q2)) :
    Calls Try.prog 17 #[.pointer (some ⟨g, 0, none⟩), .agg #[.int .i64 x, .int .i64 c.e, .int .i64 c.b, .int .i64 c.k, .slice a1 c.M.length q1, .slice a2 c.C.length q2]] w fun ev w' => ev = .returned (.int .i64 (if ixE x c es < 0 then 0 else ixE x c es + 1)) ∧ Below w.heap.size w w' := by
  obtain ⟨g0, g1, g2, -⟩ := hL.cells
  have hE := hL.elts
  have hat := fun e he => (hL.lists e he).at_
  obtain ⟨av, cv, rfl⟩ := hL.form
  have hx := heap_alloc_self w (.cells #[.int .i64 x, .int .i64 c.e, .int .i64 c.b, .int .i64 c.k, .slice a1 c.M.length q1, .slice a2 c.C.length q2] 27)
  have hb : Below w.heap.size w (w.alloc (.cells #[.int .i64 x, .int .i64 c.e, .int .i64 c.b, .int .i64 c.k, .slice a1 c.M.length q1, .slice a2 c.C.length q2] 27)) := (Below.refl _ _).alloc (Nat.le_refl _) _
  have hL1 := hL.below hb
  have ci := indexE es x c a1 a2 q1 q2 w.heap.size _ _ (hE.below hb) (fun e he => EN.at_.below (hat e he) hb) hx (CFat.below hc hb)
  have hbd := ixE_le x c es
  obtain ⟨K, hK⟩ : ∃ K, K = ixE x c es := ⟨_, rfl⟩
  rw [← hK] at ci hbd
  rw [← hK]
  obtain ⟨R, hR⟩ : ∃ R, R = (if K < 0 then 0 else K + 1) := ⟨_, rfl⟩
  rw [← hR]
  have HR := Lib.hid hR
  clear hR
  generalize es.length = n at *
  clear hE hat hL hc g0 g1 g2
  go_enter Try.func17, Try.ntmps17
  go_upto_region 3 with fail
  generalize w.alloc (.cells #[.int .i64 x, .int .i64 c.e, .int .i64 c.b, .int .i64 c.k, .slice a1 c.M.length q1, .slice a2 c.C.length q2] 27) = w1 at *
  obtain ⟨g0, g1, g2, -⟩ := hL1.cells
  have HX := Lib.hid (And.intro hL1 hb)
  clear hx hb hL1 hK
  go_wp2_with fail
  refine Calls.mono ci ?_
  rintro ev w2 ⟨rfl, hb2⟩
  have HB := Lib.hid (HX.out.2.trans (hb2.mono HX.out.2.size))
  obtain ⟨k0, k1, k2, -⟩ := (HX.out.1.below hb2).cells
  clear hb2 HX ci g0 g1 g2
  by_cases hk : K < 0
  · have hr2 : R = 0 := by rw [HR.out, if_pos hk]
    have HR2 := Lib.hid hr2
    clear hr2
    go_wp2_with fail
    go_ret
    exact ⟨by rw [HR2.out]; rfl, HB.out⟩
  · have hr2 : R = K + 1 := by rw [HR.out, if_neg hk]
    have HR2 := Lib.hid hr2
    clear hr2
    go_wp2_with fail
    go_ret
    refine ⟨?_, HB.out⟩
    rw [HR2.out]
    simp
    omega
end Go.Proofs.Ytfgmeeponipjeaa
