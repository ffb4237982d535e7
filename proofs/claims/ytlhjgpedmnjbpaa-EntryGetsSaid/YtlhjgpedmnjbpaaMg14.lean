/-
  Several texts, laid together.
-/
import Derived.Test.YtlhjgpedmnjbpaaMg2
import Derived.Test.YtlhjgpedmnjbpaaMg1
import Derived.Test.YtlhjgpedmnjbpaaMg13
/-
  A slice of structs that came in, read element by element. Of no program.
-/


namespace Go.Proofs.Ytlhjgpedmnjbpaa
open Go.RowKit
set_option linter.unusedVariables false

/-- the slice v has the elements rs, of sz cells each -/
def Elts {α : Type} (w : World) (c : α → List Value) (sz : Nat) (v : Value) (rs : List α) : Prop :=
  ∃ a cap, v = .slice a rs.length cap ∧ rs.length ≤ cap ∧ cap ≤ maxLen ∧ (rs.length = 0 ∨ ∃ b off, a = some ⟨b, off, none⟩ ∧ b < w.heap.size ∧
    ∀ (j : Nat) x, rs[j]? = some x → ∀ (k : Nat) u, (c x)[k]? = some u → w.cell? ⟨b, off + j * sz + k, none⟩ = some u)
theorem Elts.below {α : Type} {w w' : World} {c : α → List Value} {sz : Nat} {v : Value} {rs : List α} (h : Elts w c sz v rs) (hb : Below w.heap.size w w') : Elts w' c sz v rs := by
  obtain ⟨a, cap, rfl, h1, h2, h3⟩ := h
  refine ⟨a, cap, rfl, h1, h2, h3.imp id ?_⟩
  rintro ⟨b, off, rfl, hlt, hc⟩
  exact ⟨b, off, rfl, Nat.lt_of_lt_of_le hlt hb.size, fun j x hj k u hk => (hb.cell (p := ⟨b, off + j * sz + k, none⟩) hlt).trans (hc j x hj k u hk)⟩
theorem Elts.at_ {α : Type} {w : World} {c : α → List Value} {sz : Nat} {a : Option Addr} {len cap : Nat} {rs : List α} (h : Elts w c sz (.slice a len cap) rs) {j : Nat} {x : α} (hj : rs[j]? = some x) :
    len = rs.length ∧ ∃ b off, a = some ⟨b, off, none⟩ ∧ b < w.heap.size ∧ ∀ (k : Nat) u, (c x)[k]? = some u → w.cell? ⟨b, off + j * sz + k, none⟩ = some u := by
  obtain ⟨a', cap', he, h1, h2, h3⟩ := h
  injection he with e1 e2 e3
  subst e1 e2 e3
  have := (List.getElem?_eq_some_iff.1 hj).1
  obtain ⟨b, off, rfl, hlt, hc⟩ := h3.resolve_left (by omega)
  exact ⟨rfl, b, off, rfl, hlt, hc j x hj⟩
theorem fits_rows {α : Type} {w : World} {s : Sh} {c : α → List Value} {good : α → Prop} (one : ∀ ys, Fits w s ys → ∃ x, ys = c x ∧ good x)
    {a : Option Addr} {len cap : Nat} (h : Fits w (.slice s) [.slice a len cap]) : ∃ rs : List α, rs.length = len ∧ Elts w c s.size (.slice a len cap) rs ∧ ∀ x ∈ rs, good x := by
  obtain ⟨hlc, hcm, hel⟩ := h.slice
  rcases Nat.eq_zero_or_pos len with h0 | h0
  · subst h0
    exact ⟨[], rfl, ⟨a, cap, rfl, hlc, hcm, .inl rfl⟩, by simp⟩
  · obtain ⟨b, off, rfl, hb, hi⟩ := hel.resolve_left (by omega)
    have hx : ∀ i, i < len → ∃ x : α, good x ∧ ∀ (k : Nat) u, (c x)[k]? = some u → w.cell? ⟨b, off + i * s.size + k, none⟩ = some u := fun i hlt => by
      obtain ⟨ys, _, hc, hf⟩ := hi i hlt
      obtain ⟨x, rfl, hr⟩ := one ys hf
      exact ⟨x, hr, hc⟩
    have hrs : ∀ n, n ≤ len → ∃ rs : List α, rs.length = n ∧ (∀ x ∈ rs, good x) ∧ ∀ (i : Nat) x, rs[i]? = some x → ∀ (k : Nat) u, (c x)[k]? = some u → w.cell? ⟨b, off + i * s.size + k, none⟩ = some u := by
      intro n
      induction n with
      | zero => exact fun _ => ⟨[], rfl, by simp, fun i x e => by simp at e⟩
      | succ n ih =>
        intro hn
        obtain ⟨rs, h1, h2, h3⟩ := ih (by omega)
        obtain ⟨x, hr, hc⟩ := hx n (by omega)
        refine ⟨rs ++ [x], by simp [h1], fun y hy => ?_, fun i y e => ?_⟩
        · rcases List.mem_append.1 hy with q | q
          · exact h2 y q
          · rw [List.mem_singleton.1 q]; exact hr
        · rcases Nat.lt_trichotomy i n with q | q | q
          · rw [List.getElem?_append_left (by omega)] at e
            exact h3 i y e
          · subst q
            rw [List.getElem?_append_right (by omega), h1, Nat.sub_self] at e
            simp only [List.getElem?_cons_zero, Option.some.injEq] at e
            subst e
            exact hc
          · have := (List.getElem?_eq_some_iff.1 e).1
            simp [h1] at this
            omega
    obtain ⟨rs, h1, h2, h3⟩ := hrs len (Nat.le_refl _)
    subst h1
    exact ⟨rs, rfl, ⟨_, cap, rfl, hlc, hcm, .inr ⟨b, off, rfl, hb, h3⟩⟩, h2⟩
end Go.Proofs.Ytlhjgpedmnjbpaa
/-
  Lists of entries: slices.EqualFunc with entry.Same, entry.Equal, tarnref13.All.
-/



namespace Go.Proofs.Ytlhjgpedmnjbpaa
open Go.RowKit
set_option linter.unusedVariables false
set_option linter.unusedSimpArgs false

def sameEN (a b : EN) : Bool := sameE a.t a.x a.c b.t b.x b.c
/-- the same lists of entries -/
def allE : List EN → List EN → Bool
  | [], [] => true
  | a :: r, b :: s => sameEN a b && allE r s
  | _, _ => false
theorem allE_len : ∀ (a b : List EN), a.length ≠ b.length → allE a b = false
  | [], [], h => absurd rfl h
  | [], _ :: _, _ => rfl
  | _ :: _, [], _ => rfl
  | x :: a, y :: b, h => by rw [allE, allE_len a b (by simpa using h), Bool.and_false]
theorem allE_true : ∀ (a b : List EN), a.length = b.length → (∀ (j : Nat) (x y : EN), a[j]? = some x → b[j]? = some y → sameEN x y = true) → allE a b = true
  | [], [], _, _ => rfl
  | [], _ :: _, h, _ => by simp at h
  | _ :: _, [], h, _ => by simp at h
  | x :: a, y :: b, h, hs => by
    rw [allE, hs 0 x y rfl rfl, allE_true a b (by simpa using h) (fun j u v hu hv => hs (j + 1) u v (by simpa using hu) (by simpa using hv))]
    rfl
theorem allE_false : ∀ (a b : List EN) (j : Nat) (x y : EN), a[j]? = some x → b[j]? = some y → sameEN x y = false → allE a b = false
  | [], _, j, x, y, h, _, _ => by simp at h
  | _ :: _, [], j, x, y, _, h, _ => by simp at h
  | u :: a, v :: b, 0, x, y, hx, hy, h => by
    simp at hx hy
    subst hx hy
    rw [allE, h, Bool.false_and]
  | u :: a, v :: b, j + 1, x, y, hx, hy, h => by
    rw [allE, allE_false a b j x y (by simpa using hx) (by simpa using hy) h, Bool.and_false]
theorem sameEN_self (a : EN) : sameEN a a = true := by
  have : sameC a.c a.c = true := by simp [sameC]
  simp [sameEN, sameE, this]
theorem allE_self (l : List EN) : allE l l = true := allE_true l l rfl fun j x y hx hy => by rw [hx] at hy; cases hy; exact sameEN_self x
/-- up to here all are the same -/
def SameTo (a b : List EN) (k : Nat) : Prop := ∀ j, j < k → ∀ x y, a[j]? = some x → b[j]? = some y → sameEN x y = true
theorem sameTo_next {a b : List EN} {k : Nat} {x y : EN} (h : SameTo a b k) (hx : a[k]? = some x) (hy : b[k]? = some y) (hs : sameEN x y = true) : SameTo a b (k + 1) := by
  intro j hj u v hu hv
  by_cases hjk : j = k
  · subst hjk
    rw [hx] at hu
    rw [hy] at hv
    cases hu
    cases hv
    exact hs
  · exact h j (by omega) u v hu hv
theorem sameTo_all {a b : List EN} {k : Nat} (h : SameTo a b k) (ha : a.length = k) (hb : b.length = k) : allE a b = true :=
  allE_true a b (by omega) fun j x y hx hy => h j (by have := (List.getElem?_eq_some_iff.1 hx).1; omega) x y hx hy
/-- an entry's cells at a place -/
theorem en_loads {w wr : World} {a : Option Addr} {len cap : Nat} {rs : List EN} (h : Elts w EN.cells 7 (.slice a len cap) rs) (hb : Below w.heap.size w wr) {j : Nat} {x : EN} (hj : rs[j]? = some x) :
    ∃ g off, a = some ⟨g, off, none⟩ ∧ g < w.heap.size ∧ wr.cell? ⟨g, off + j * 7, none⟩ = some (.int .i64 x.t) ∧ wr.cell? ⟨g, off + j * 7 + 1, none⟩ = some (.int .i64 x.x) ∧ wr.cell? ⟨g, off + j * 7 + 2, none⟩ = some (.int .i64 x.c.e) ∧ wr.cell? ⟨g, off + j * 7 + 3, none⟩ = some (.int .i64 x.c.b) ∧ wr.cell? ⟨g, off + j * 7 + 4, none⟩ = some (.int .i64 x.c.k) ∧ wr.cell? ⟨g, off + j * 7 + 5, none⟩ = some (.slice x.a1 x.c.M.length x.q1) ∧ wr.cell? ⟨g, off + j * 7 + 6, none⟩ = some (.slice x.a2 x.c.C.length x.q2) := by
  obtain ⟨-, g, off, rfl, hg, hc⟩ := h.at_ hj
  exact ⟨g, off, rfl, hg, (hb.cell (p := ⟨g, off + j * 7, none⟩) hg).trans (hc 0 _ rfl), (hb.cell (p := ⟨g, off + j * 7 + 1, none⟩) hg).trans (hc 1 _ rfl), (hb.cell (p := ⟨g, off + j * 7 + 2, none⟩) hg).trans (hc 2 _ rfl), (hb.cell (p := ⟨g, off + j * 7 + 3, none⟩) hg).trans (hc 3 _ rfl), (hb.cell (p := ⟨g, off + j * 7 + 4, none⟩) hg).trans (hc 4 _ rfl), (hb.cell (p := ⟨g, off + j * 7 + 5, none⟩) hg).trans (hc 5 _ rfl), (hb.cell (p := ⟨g, off + j * 7 + 6, none⟩) hg).trans (hc 6 _ rfl)⟩
abbrev enV (x : EN) : Array Value := #[.int .i64 x.t, .int .i64 x.x, .int .i64 x.c.e, .int .i64 x.c.b, .int .i64 x.c.k, .slice x.a1 x.c.M.length x.q1, .slice x.a2 x.c.C.length x.q2]
set_option maxHeartbeats 6400000 in
set_option maxRecDepth 100000 in
theorem eqfunc (es fs : List EN) (u v : Value) (w : World) (hu : Elts w EN.cells 7 u es) (hv : Elts w EN.cells 7 v fs) (hes : ∀ e ∈ es, e.at_ w) (hfs : ∀ e ∈ fs, e.at_ w) :
    Calls Try.prog 98 #[u, v, .func (.func 34) #[] #[]] w fun e w' => e = .returned (.bool (allE es fs)) ∧ Below w.heap.size w w' := by
  have eg : ∀ args w, (callFunc 34 args).run Try.prog w = .ok (.enter 34 args) w := fun _ _ => by rfl
  obtain ⟨ua, uc, rfl, hu1, hu2, hu3⟩ := hu
  obtain ⟨va, vc, rfl, hv1, hv2, hv3⟩ := hv
  have HU := Lib.hid (show Elts w EN.cells 7 (.slice ua es.length uc) es from ⟨ua, uc, rfl, hu1, hu2, hu3⟩)
  have HV := Lib.hid (show Elts w EN.cells 7 (.slice va fs.length vc) fs from ⟨va, vc, rfl, hv1, hv2, hv3⟩)
  have HA := Lib.hid (And.intro hes hfs)
  unfold maxLen at hu2 hv2
  obtain ⟨n, hn⟩ : ∃ n, es.length = n := ⟨_, rfl⟩
  obtain ⟨m, hm⟩ : ∃ m, fs.length = m := ⟨_, rfl⟩
  rw [hn] at HU hu1
  rw [hm] at HV hv1
  rw [hn, hm]
  have HN := Lib.hid (And.intro hn hm)
  obtain ⟨R, hR⟩ : ∃ R, allE es fs = R := ⟨_, rfl⟩
  rw [hR]
  have HR := Lib.hid hR
  clear hu3 hv3 hes hfs hn hm hR
  by_cases hnm : n = m
  · subst hnm
    go_enter Try.func98, Try.ntmps98
    go_wp2_with fail
    go_loopw [17] (fun iv wr => ∃ k : Nat, iv = .int .i64 k ∧ k ≤ n ∧ SameTo es fs k ∧ Below w.heap.size w wr) (fun iv _ => n - (intOf iv).toNat)
    case atStart => exact ⟨0, rfl, by omega, fun j hj => by omega, Below.refl _ _⟩
    case round =>
      obtain ⟨k, rfl, hk, hst, hb⟩ := hrel
      have HST := Lib.hid hst
      have HB := Lib.hid hb
      by_cases hlt : k < n
      · have hki : (k : Int) < (n : Int) := by omega
        obtain ⟨x, hx⟩ : ∃ x, es[k]? = some x := ⟨_, List.getElem?_eq_getElem (by have := HN.out.1; omega)⟩
        obtain ⟨y, hy⟩ : ∃ y, fs[k]? = some y := ⟨_, List.getElem?_eq_getElem (by have := HN.out.2; omega)⟩
        have hxa := HA.out.1 x (List.mem_of_getElem? hx)
        have hya := HA.out.2 y (List.mem_of_getElem? hy)
        have HXY := Lib.hid (And.intro hx (And.intro hy (And.intro (CFat.below hxa hb) (CFat.below hya hb))))
        obtain ⟨g, off, rfl, hg, l0, l1, l2, l3, l4, l5, l6⟩ := en_loads HU.out hb hx
        have hb5 : Below wr.heap.size wr (wr.alloc (.cells (enV x) 52)) := (Below.refl _ _).alloc (Nat.le_refl _) _
        obtain ⟨g2, off2, hg2e, hg2, r0, r1, r2, r3, r4, r5, r6⟩ := en_loads HV.out (hb.trans (hb5.mono hb.size)) hy
        subst hg2e
        have h5 := heap_alloc_self wr (.cells (enV x) 52)
        clear hst hb hx hy hxa hya hg hg2
        go_upto_region 6 with fail
        have H5 := Lib.hid (And.intro h5 hb5)
        clear h5 hb5 l0 l1 l2 l3 l4 l5 l6
        generalize wr.alloc (.cells (enV x) 52) = W5 at *
        have h6 := heap_alloc_self W5 (.cells (enV y) 52)
        have hb6 : Below W5.heap.size W5 (W5.alloc (.cells (enV y) 52)) := (Below.refl _ _).alloc (Nat.le_refl _) _
        go_upto_region 7 with fail
        have H6 := Lib.hid (And.intro h6 hb6)
        clear h6 hb6 r0 r1 r2 r3 r4 r5 r6
        generalize W5.alloc (.cells (enV y) 52) = W6 at *
        have h5' := below_at H6.out.2 (lt_heap H5.out.1) H5.out.1
        have h6' := H6.out.1
        have d0 := cell_atD h5' 0 (v := .int .i64 x.t) rfl
        have d1 := cell_atD h5' 1 (v := .int .i64 x.x) rfl
        have d2 := cell_atD h5' 2 (v := .int .i64 x.c.e) rfl
        have d3 := cell_atD h5' 3 (v := .int .i64 x.c.b) rfl
        have d4 := cell_atD h5' 4 (v := .int .i64 x.c.k) rfl
        have d5 := cell_atD h5' 5 (v := .slice x.a1 x.c.M.length x.q1) rfl
        have d6 := cell_atD h5' 6 (v := .slice x.a2 x.c.C.length x.q2) rfl
        have f0 := cell_atD h6' 0 (v := .int .i64 y.t) rfl
        have f1 := cell_atD h6' 1 (v := .int .i64 y.x) rfl
        have f2 := cell_atD h6' 2 (v := .int .i64 y.c.e) rfl
        have f3 := cell_atD h6' 3 (v := .int .i64 y.c.b) rfl
        have f4 := cell_atD h6' 4 (v := .int .i64 y.c.k) rfl
        have f5 := cell_atD h6' 5 (v := .slice y.a1 y.c.M.length y.q1) rfl
        have f6 := cell_atD h6' 6 (v := .slice y.a2 y.c.C.length y.q2) rfl
        have hb06 : Below wr.heap.size wr W6 := H5.out.2.trans (H6.out.2.mono H5.out.2.size)
        have cs := esameE x.t x.x x.c y.t y.x y.c x.a1 x.a2 y.a1 y.a2 x.q1 x.q2 y.q1 y.q2 W6 (CFat.below HXY.out.2.2.1 hb06) (CFat.below HXY.out.2.2.2 hb06)
        have HB6 := Lib.hid (HB.out.trans (hb06.mono HB.out.size))
        obtain ⟨sb, hsb⟩ : ∃ sb, sameE x.t x.x x.c y.t y.x y.c = sb := ⟨_, rfl⟩
        rw [hsb] at cs
        have HSB := Lib.hid (show sameEN x y = sb from hsb)
        clear h5' h6' hb06 hsb
        go_wp2_with fail
        refine Calls.mono cs ?_
        rintro ev W7 ⟨rfl, hb7⟩
        have HB7 := Lib.hid (HB6.out.trans (hb7.mono HB6.out.size))
        clear hb7 cs d0 d1 d2 d3 d4 d5 d6 f0 f1 f2 f3 f4 f5 f6
        cases sb
        · have hfin : R = false := by rw [← HR.out]; exact allE_false es fs k x y HXY.out.1 HXY.out.2.1 HSB.out
          have HFIN := Lib.hid hfin
          clear hfin
          go_wp2_with fail
          go_ret
          exact ⟨ret_bool HFIN.out.symm, HB7.out⟩
        · go_wp2_with fail
          go_roundw
          case rel => exact ⟨k + 1, by go_num, by omega, sameTo_next HST.out HXY.out.1 HXY.out.2.1 HSB.out, HB7.out⟩
          case measure => simp [intOf]; omega
      · obtain rfl : k = n := by omega
        have hfin : R = true := by rw [← HR.out]; exact sameTo_all hst HN.out.1 HN.out.2
        have HFIN := Lib.hid hfin
        clear hfin hst hb
        go_wp2_with fail
        go_ret
        exact ⟨ret_bool HFIN.out.symm, HB.out⟩
  · have hne : ((n : Int) != (m : Int)) = true := by
      simp only [bne_iff_ne, ne_eq]
      omega
    have hne2 : ((n : Int) == (m : Int)) = false := by
      simp only [beq_eq_false_iff_ne, ne_eq]
      omega
    have hfin : R = false := by rw [← HR.out]; exact allE_len es fs (by rw [HN.out.1, HN.out.2]; exact hnm)
    have HFIN := Lib.hid hfin
    clear hfin
    go_enter Try.func98, Try.ntmps98
    go_wp2_with fail
    go_ret
    exact ⟨ret_bool HFIN.out.symm, Below.refl _ _⟩
theorem eequal (es fs : List EN) (u v : Value) (w : World) (hu : Elts w EN.cells 7 u es) (hv : Elts w EN.cells 7 v fs) (hes : ∀ e ∈ es, e.at_ w) (hfs : ∀ e ∈ fs, e.at_ w) :
    Calls Try.prog 36 #[u, v] w fun e w' => e = .returned (.bool (allE es fs)) ∧ Below w.heap.size w w' := by
  have c := eqfunc es fs u v w hu hv hes hfs
  clear hu hv hes hfs
  go_enter Try.func36, Try.ntmps36
  go_wp2_with fail
  refine Calls.mono c ?_
  rintro ev w2 ⟨rfl, hb⟩
  go_wp2_with fail
  go_ret
  exact ⟨rfl, hb⟩
end Go.Proofs.Ytlhjgpedmnjbpaa
/-
  Lists of entries: tarnref13.All.
-/

namespace Go.Proofs.Ytlhjgpedmnjbpaa
open Go.RowKit
set_option linter.unusedVariables false
set_option linter.unusedSimpArgs false

set_option maxHeartbeats 6400000 in
set_option maxRecDepth 100000 in
theorem rall13 (es fs : List EN) (u v : Value) (w : World) (hu : Elts w EN.cells 7 u es) (hv : Elts w EN.cells 7 v fs) (hes : ∀ e ∈ es, e.at_ w) (hfs : ∀ e ∈ fs, e.at_ w) :
    Calls Try.prog 37 #[u, v] w fun e w' => e = .returned (.bool (allE es fs)) ∧ Below w.heap.size w w' := by
  obtain ⟨ua, uc, rfl, hu1, hu2, hu3⟩ := hu
  obtain ⟨va, vc, rfl, hv1, hv2, hv3⟩ := hv
  have HU := Lib.hid (show Elts w EN.cells 7 (.slice ua es.length uc) es from ⟨ua, uc, rfl, hu1, hu2, hu3⟩)
  have HV := Lib.hid (show Elts w EN.cells 7 (.slice va fs.length vc) fs from ⟨va, vc, rfl, hv1, hv2, hv3⟩)
  have HA := Lib.hid (And.intro hes hfs)
  unfold maxLen at hu2 hv2
  obtain ⟨n, hn⟩ : ∃ n, es.length = n := ⟨_, rfl⟩
  obtain ⟨m, hm⟩ : ∃ m, fs.length = m := ⟨_, rfl⟩
  rw [hn] at HU hu1
  rw [hm] at HV hv1
  rw [hn, hm]
  have HN := Lib.hid (And.intro hn hm)
  obtain ⟨R, hR⟩ : ∃ R, allE es fs = R := ⟨_, rfl⟩
  rw [hR]
  have HR := Lib.hid hR
  clear hu3 hv3 hes hfs hn hm hR
  by_cases hnm : n = m
  · subst hnm
    go_enter Try.func37, Try.ntmps37
    go_wp2_with fail
    go_loopw [5] (fun iv wr => ∃ k : Nat, iv = .int .i64 k ∧ k ≤ n ∧ SameTo es fs k ∧ Below w.heap.size w wr) (fun iv _ => n - (intOf iv).toNat)
    case atStart => exact ⟨0, rfl, by omega, fun j hj => by omega, Below.refl _ _⟩
    case round =>
      obtain ⟨k, rfl, hk, hst, hb⟩ := hrel
      have HST := Lib.hid hst
      have HB := Lib.hid hb
      by_cases hlt : k < n
      · have hki : (k : Int) < (n : Int) := by omega
        obtain ⟨x, hx⟩ : ∃ x, es[k]? = some x := ⟨_, List.getElem?_eq_getElem (by have := HN.out.1; omega)⟩
        obtain ⟨y, hy⟩ : ∃ y, fs[k]? = some y := ⟨_, List.getElem?_eq_getElem (by have := HN.out.2; omega)⟩
        have hxa := CFat.below (HA.out.1 x (List.mem_of_getElem? hx)) hb
        have hya := CFat.below (HA.out.2 y (List.mem_of_getElem? hy)) hb
        have hbd : Below wr.heap.size wr wr.drew := below_drew' (Below.refl _ _)
        have cs := rsameE x.t x.x x.c y.t y.x y.c x.a1 x.a2 y.a1 y.a2 x.q1 x.q2 y.q1 y.q2 wr.drew (hxa.below hbd) (hya.below hbd)
        obtain ⟨g, off, rfl, hg, l0, l1, l2, l3, l4, l5, l6⟩ := en_loads HU.out hb hx
        obtain ⟨g2, off2, hg2e, hg2, r0, r1, r2, r3, r4, r5, r6⟩ := en_loads HV.out hb hy
        subst hg2e
        have HXY := Lib.hid (And.intro hx hy)
        obtain ⟨sb, hsb⟩ : ∃ sb, sameE x.t x.x x.c y.t y.x y.c = sb := ⟨_, rfl⟩
        rw [hsb] at cs
        have HSB := Lib.hid (show sameEN x y = sb from hsb)
        clear hst hb hx hy hxa hya hg hg2 hbd hsb
        go_upto_region 6 with fail
        go_still_tail 8, (by kernel_rfl)
        change wpList _ _ _ _ _ wr.drew
        go_wp2_with fail
        refine Calls.mono cs ?_
        rintro ev W7 ⟨rfl, hb7⟩
        have HB7 := Lib.hid (HB.out.trans ((below_of_drew hb7).mono HB.out.size))
        clear hb7 cs l0 l1 l2 l3 l4 l5 l6 r0 r1 r2 r3 r4 r5 r6
        cases sb
        · have hfin : R = false := by rw [← HR.out]; exact allE_false es fs k x y HXY.out.1 HXY.out.2 HSB.out
          have HFIN := Lib.hid hfin
          clear hfin
          go_wp2_with fail
          go_ret
          exact ⟨ret_bool HFIN.out.symm, HB7.out⟩
        · go_wp2_with fail
          go_roundw
          case rel => exact ⟨k + 1, by go_num, by omega, sameTo_next HST.out HXY.out.1 HXY.out.2 HSB.out, HB7.out⟩
          case measure => simp [intOf]; omega
      · obtain rfl : k = n := by omega
        have hfin : R = true := by rw [← HR.out]; exact sameTo_all hst HN.out.1 HN.out.2
        have HFIN := Lib.hid hfin
        clear hfin hst hb
        go_wp2_with fail
        go_ret
        exact ⟨ret_bool HFIN.out.symm, HB.out⟩
  · have hne : ((n : Int) != (m : Int)) = true := by
      simp only [bne_iff_ne, ne_eq]
      omega
    have hne2 : ((n : Int) == (m : Int)) = false := by
      simp only [beq_eq_false_iff_ne, ne_eq]
      omega
    have hfin : R = false := by rw [← HR.out]; exact allE_len es fs (by rw [HN.out.1, HN.out.2]; exact hnm)
    have HFIN := Lib.hid hfin
    clear hfin
    go_enter Try.func37, Try.ntmps37
    go_wp2_with fail
    go_ret
    exact ⟨ret_bool HFIN.out.symm, Below.refl _ _⟩
end Go.Proofs.Ytlhjgpedmnjbpaa
