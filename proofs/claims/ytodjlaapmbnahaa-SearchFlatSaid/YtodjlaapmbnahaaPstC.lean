/-
  past: what a part of something came to. Written by genpst.py.
-/
import Derived.Test.YtodjlaapmbnahaaPstB
namespace Go.Proofs.Ytodjlaapmbnahaa
open Go.RowKit
open Go.Maps (Keyed)
set_option linter.unusedVariables false
set_option linter.unusedSimpArgs false

/-- what the k-th part came to: writes, value, told at, was something -/
def useS (E : List Ev) (o : Option Nat) (k : Nat) (wr : Bool) (d : ByteArray) : Bool × ByteArray × Int × Bool :=
  match o with
  | none => (wr, d, 1073741824, wr)
  | some i => match E[i]? with
    | none => (false, ⟨#[]⟩, 0, false)
    | some x => if x.err = 0 then (if wr then (true, d, i, true) else (false, x.txt.extract (min (32 * k) x.txt.size) (min (min (32 * k) x.txt.size + 32) x.txt.size), i, true)) else (false, ⟨#[]⟩, 0, false)
def useA (u : Bool × ByteArray × Int × Bool) : Array Value := #[.agg #[.bool u.1, .string u.2.1, .int .i64 0, .int .i64 u.2.2.1], .bool u.2.2.2]
def UseP (u : Bool × ByteArray × Int × Bool) (w : World) (e : Ending) (w' : World) : Prop := e = .returned (.tuple (useA u)) ∧ Below w.heap.size w w'
theorem four_set {w : World} {X : Nat} {t : TypeId} {a b c d a' b' c' d' : Value} (h : w.heap[X]? = some (.cells #[a, b, c, d] t)) :
    ((((w.setCell ⟨X, 0, none⟩ a').setCell ⟨X, 1, none⟩ b').setCell ⟨X, 2, none⟩ c').setCell ⟨X, 3, none⟩ d').heap[X]? = some (.cells #[a', b', c', d'] t) ∧ Only X w ((((w.setCell ⟨X, 0, none⟩ a').setCell ⟨X, 1, none⟩ b').setCell ⟨X, 2, none⟩ c').setCell ⟨X, 3, none⟩ d') := by
  have h1 : (w.setCell ⟨X, 0, none⟩ a').heap[X]? = some (.cells #[a', b, c, d] t) := heap_set_self h 0 _
  have h2 : ((w.setCell ⟨X, 0, none⟩ a').setCell ⟨X, 1, none⟩ b').heap[X]? = some (.cells #[a', b', c, d] t) := heap_set_self h1 1 _
  have h3 : (((w.setCell ⟨X, 0, none⟩ a').setCell ⟨X, 1, none⟩ b').setCell ⟨X, 2, none⟩ c').heap[X]? = some (.cells #[a', b', c', d] t) := heap_set_self h2 2 _
  exact ⟨heap_set_self h3 3 _, ((((Only.refl _ _).set 0 _).set 1 _).set 2 _).set 3 _⟩
theorem four_newU (w : World) (o p q r : Obj) : ((((w.alloc o).alloc p).alloc q).alloc r).heap[w.heap.size]? = some o ∧ ((((w.alloc o).alloc p).alloc q).alloc r).heap[w.heap.size + 1]? = some p ∧ ((((w.alloc o).alloc p).alloc q).alloc r).heap[w.heap.size + 2]? = some q ∧ ((((w.alloc o).alloc p).alloc q).alloc r).heap[w.heap.size + 3]? = some r ∧ Below w.heap.size w ((((w.alloc o).alloc p).alloc q).alloc r) ∧ ((((w.alloc o).alloc p).alloc q).alloc r).heap.size = w.heap.size + 4 := by
  obtain ⟨h1, h2, h3, h4⟩ := two_newF w o p
  obtain ⟨g1, g2, g3, g4⟩ := two_newF ((w.alloc o).alloc p) q r
  rw [h4] at g1 g2 g3 g4
  exact ⟨below_at g3 (by omega) h1, below_at g3 (by omega) h2, g1, g2, h3.trans (g3.mono (by omega)), g4⟩
set_option maxHeartbeats 3200000 in
set_option maxRecDepth 100000 in
theorem puse_none (E : List Ev) (v : Value) (k : Nat) (pb : Int) (wr : Bool) (d : ByteArray) (w : World) (hE : Elts w Ev.c 10 v E) :
    Calls Try.prog 29 #[v, .agg #[.int .i64 0, .bool false], .int .i64 k, .agg #[.int .i64 pb, .bool wr, .string d]] w (UseP ((wr, d, 1073741824, wr)) w) := by
  obtain ⟨a, cap, rfl, hlc, hcm⟩ := elts_len hE
  unfold UseP useA
  dsimp only
  clear hE hlc hcm
  obtain ⟨x0, x1, x2, x3, hb, hz⟩ := four_newU w (.cells #[.int .i64 0, .bool false] 93) (.cells #[.int .i64 pb, .bool wr, .string d] 89) (.cells #[.bool false, .string ⟨#[]⟩, .int .i64 0, .int .i64 0] 72) (.cells #[.bool wr, .string d, .int .i64 0, .int .i64 1073741824] 72)
  have H := Lib.hid (And.intro x0 (And.intro x1 (And.intro x2 (And.intro x3 (And.intro hb hz)))))
  obtain ⟨X, hX⟩ : ∃ X, w.heap.size = X := ⟨_, rfl⟩
  rw [hX] at H
  have HX := Lib.hid hX
  clear x0 x1 x2 x3 hb hz
  go_enter Try.func29, Try.ntmps29
  go_upto_region 2 with fail
  generalize (((w.alloc (.cells #[.int .i64 0, .bool false] 93)).alloc (.cells #[.int .i64 pb, .bool wr, .string d] 89)).alloc (.cells #[.bool false, .string ⟨#[]⟩, .int .i64 0, .int .i64 0] 72)).alloc (.cells #[.bool wr, .string d, .int .i64 0, .int .i64 1073741824] 72) = w1 at *
  try rw [hX]
  clear hX
  have a0 := cell_atF H.out.1 0 (v := .int .i64 0) rfl
  have a1 := cell_atF H.out.1 1 (v := .bool false) rfl
  have p0 := cell_atF H.out.2.1 0 (v := .int .i64 pb) rfl
  have p1 := cell_atF H.out.2.1 1 (v := .bool wr) rfl
  have p2 := cell_atF H.out.2.1 2 (v := .string d) rfl
  have z0 := cell_atF H.out.2.2.1 0 (v := .bool false) rfl
  have z1 := cell_atF H.out.2.2.1 1 (v := .string ⟨#[]⟩) rfl
  have z2 := cell_atF H.out.2.2.1 2 (v := .int .i64 0) rfl
  have z3 := cell_atF H.out.2.2.1 3 (v := .int .i64 0) rfl
  have zf : ∀ j, w1.frozen? ⟨X + 1 + 1, j, none⟩ = false := fun j => by simp [World.frozen?, H.out.2.2.1]
  have u0 := cell_atF H.out.2.2.2.1 0 (v := (.bool wr)) rfl
  have u1 := cell_atF H.out.2.2.2.1 1 (v := (.string d)) rfl
  have u2 := cell_atF H.out.2.2.2.1 2 (v := (.int .i64 0)) rfl
  have u3 := cell_atF H.out.2.2.2.1 3 (v := (.int .i64 1073741824)) rfl
  have uf : ∀ j, w1.frozen? ⟨X + 1 + 1 + 1, j, none⟩ = false := fun j => by simp [World.frozen?, H.out.2.2.2.1]
  go_upto_region 3 with fail
  have HB := Lib.hid (And.intro H.out.2.2.1 H.out.2.2.2.2.1)
  obtain ⟨f, o⟩ := four_set HB.out.1 (a' := (.bool wr)) (b' := (.string d)) (c' := (.int .i64 0)) (d' := (.int .i64 1073741824))
  have HF := Lib.hid (And.intro f (HB.out.2.trans (o.below (by omega) (by have := HB.out.2.size; have := HX.out; omega))))
  clear f o
  go_region
  clear a0 a1 p0 p1 p2 z0 z1 z2 z3 zf u0 u1 u2 u3 uf
  go_wp2_with fail
  have HF' := Lib.hid (And.intro (show (((((w1.setCell ⟨X + 2, 0, none⟩ (.bool wr)).setCell ⟨X + 2, 1, none⟩ (.string d)).setCell ⟨X + 2, 2, none⟩ (.int .i64 0)).setCell ⟨X + 2, 3, none⟩ (.int .i64 1073741824)).drew).heap[X + 2]? = _ from HF.out.1) (below_drew' HF.out.2))
  clear HF
  generalize ((((w1.setCell ⟨X + 1 + 1, 0, none⟩ (.bool wr)).setCell ⟨X + 1 + 1, 1, none⟩ (.string d)).setCell ⟨X + 1 + 1, 2, none⟩ (.int .i64 0)).setCell ⟨X + 1 + 1, 3, none⟩ (.int .i64 1073741824)).drew = wf at *
  have HF := HF'
  have y0 := cell_atF HF.out.1 0 (v := (.bool wr)) rfl
  have y1 := cell_atF HF.out.1 1 (v := (.string d)) rfl
  have y2 := cell_atF HF.out.1 2 (v := (.int .i64 0)) rfl
  have y3 := cell_atF HF.out.1 3 (v := (.int .i64 1073741824)) rfl
  refine bodyPost_ret (v := .tuple #[.agg #[(.bool wr), (.string d), (.int .i64 0), (.int .i64 1073741824)], .bool wr]) (by simp [results, Try.results29, go_sem, y0, y1, y2, y3]) rfl ?_
  exact ⟨rfl, HF.out.2.mono (Nat.le_of_eq HX.out)⟩
set_option maxHeartbeats 3200000 in
set_option maxRecDepth 100000 in
theorem puse_bad (E : List Ev) (v : Value) (i : Nat) (x : Ev) (k : Nat) (pb : Int) (wr : Bool) (d : ByteArray) (w : World) (hE : Elts w Ev.c 10 v E) (hx : E[i]? = some x) (he : x.err ≠ 0) :
    Calls Try.prog 29 #[v, .agg #[.int .i64 i, .bool true], .int .i64 k, .agg #[.int .i64 pb, .bool wr, .string d]] w (UseP ((false, ⟨#[]⟩, 0, false)) w) := by
  obtain ⟨a, cap, rfl, hlc, hcm⟩ := elts_len hE
  unfold UseP useA
  dsimp only
  obtain ⟨an, id, ga, wh, aa, le, da, su, er, tx⟩ := x
  dsimp only at *
  have HE := Lib.hid (And.intro hE hx)
  have hil := (List.getElem?_eq_some_iff.1 hx).1
  unfold maxLen at hcm
  clear hE hx
  obtain ⟨x0, x1, x2, x3, hb, hz⟩ := four_newU w (.cells #[.int .i64 i, .bool true] 93) (.cells #[.int .i64 pb, .bool wr, .string d] 89) (.cells #[.bool false, .string ⟨#[]⟩, .int .i64 0, .int .i64 0] 72) (.cells #[.bool wr, .string d, .int .i64 0, .int .i64 1073741824] 72)
  have H := Lib.hid (And.intro x0 (And.intro x1 (And.intro x2 (And.intro x3 (And.intro hb hz)))))
  obtain ⟨X, hX⟩ : ∃ X, w.heap.size = X := ⟨_, rfl⟩
  rw [hX] at H
  have HX := Lib.hid hX
  clear x0 x1 x2 x3 hb hz
  go_enter Try.func29, Try.ntmps29
  go_upto_region 2 with fail
  generalize (((w.alloc (.cells #[.int .i64 i, .bool true] 93)).alloc (.cells #[.int .i64 pb, .bool wr, .string d] 89)).alloc (.cells #[.bool false, .string ⟨#[]⟩, .int .i64 0, .int .i64 0] 72)).alloc (.cells #[.bool wr, .string d, .int .i64 0, .int .i64 1073741824] 72) = w1 at *
  try rw [hX]
  clear hX
  have a0 := cell_atF H.out.1 0 (v := .int .i64 i) rfl
  have a1 := cell_atF H.out.1 1 (v := .bool true) rfl
  have p0 := cell_atF H.out.2.1 0 (v := .int .i64 pb) rfl
  have p1 := cell_atF H.out.2.1 1 (v := .bool wr) rfl
  have p2 := cell_atF H.out.2.1 2 (v := .string d) rfl
  obtain ⟨g, off, rfl, hg, k0, k1, k2, k3, k4, k5, k6, k7, k8, k9⟩ := ev_cells (HE.out.1.below (H.out.2.2.2.2.1.mono (Nat.le_of_eq HX.out))) HE.out.2
  dsimp only at k0 k1 k2 k3 k4 k5 k6 k7 k8 k9
  have hb2 : Below w1.heap.size w1 (w1.alloc (.cells #[.bool an, .int .i64 id, .int .i64 ga, .int .i64 wh, .int .i64 aa, .int .i64 le, .string da, .bool su, .int .i64 er, .string tx] 36)) := (Below.refl _ _).alloc (Nat.le_refl _) _
  have H2 := Lib.hid (And.intro (below_at hb2 (lt_heap H.out.1) H.out.1) (And.intro (below_at hb2 (lt_heap H.out.2.1) H.out.2.1) (And.intro (below_at hb2 (lt_heap H.out.2.2.1) H.out.2.2.1) (And.intro (below_at hb2 (lt_heap H.out.2.2.2.1) H.out.2.2.2.1) (And.intro (heap_alloc_self w1 (.cells #[.bool an, .int .i64 id, .int .i64 ga, .int .i64 wh, .int .i64 aa, .int .i64 le, .string da, .bool su, .int .i64 er, .string tx] 36)) (H.out.2.2.2.2.1.trans (hb2.mono (by have := H.out.2.2.2.2.1.size; have := HX.out; omega))))))))
  have hz := H.out.2.2.2.2.2
  clear hb2
  go_upto_region 5 with fail
  try rw [hz]
  rw [hz] at H2
  generalize w1.alloc (.cells #[.bool an, .int .i64 id, .int .i64 ga, .int .i64 wh, .int .i64 aa, .int .i64 le, .string da, .bool su, .int .i64 er, .string tx] 36) = w2 at *
  clear a0 a1 p0 p1 p2 k0 k1 k2 k3 k4 k5 k6 k7 k8 k9 hg hz H
  have a0 := cell_atF H2.out.1 0 (v := .int .i64 i) rfl
  have a1 := cell_atF H2.out.1 1 (v := .bool true) rfl
  have p0 := cell_atF H2.out.2.1 0 (v := .int .i64 pb) rfl
  have p1 := cell_atF H2.out.2.1 1 (v := .bool wr) rfl
  have p2 := cell_atF H2.out.2.1 2 (v := .string d) rfl
  have e4 := cell_atF H2.out.2.2.2.2.1 8 (v := .int .i64 er) rfl
  have e5 := cell_atF H2.out.2.2.2.2.1 9 (v := .string tx) rfl
  have z0 := cell_atF H2.out.2.2.1 0 (v := .bool false) rfl
  have z1 := cell_atF H2.out.2.2.1 1 (v := .string ⟨#[]⟩) rfl
  have z2 := cell_atF H2.out.2.2.1 2 (v := .int .i64 0) rfl
  have z3 := cell_atF H2.out.2.2.1 3 (v := .int .i64 0) rfl
  have zf : ∀ j, w2.frozen? ⟨X + 1 + 1, j, none⟩ = false := fun j => by simp [World.frozen?, H2.out.2.2.1]
  have HB := Lib.hid (And.intro H2.out.2.2.1 H2.out.2.2.2.2.2)
  obtain ⟨f, o⟩ := four_set HB.out.1 (a' := (.bool false)) (b' := (.string ⟨#[]⟩)) (c' := (.int .i64 0)) (d' := (.int .i64 0))
  have HF := Lib.hid (And.intro f (HB.out.2.trans (o.below (by omega) (by have := HB.out.2.size; have := HX.out; omega))))
  clear f o
  go_wp2_with fail
  clear a0 a1 p0 p1 p2 e4 e5 z0 z1 z2 z3 zf
  generalize (((w2.setCell ⟨X + 1 + 1, 0, none⟩ (.bool false)).setCell ⟨X + 1 + 1, 1, none⟩ (.string ⟨#[]⟩)).setCell ⟨X + 1 + 1, 2, none⟩ (.int .i64 0)).setCell ⟨X + 1 + 1, 3, none⟩ (.int .i64 0) = wf at *
  have y0 := cell_atF HF.out.1 0 (v := (.bool false)) rfl
  have y1 := cell_atF HF.out.1 1 (v := (.string ⟨#[]⟩)) rfl
  have y2 := cell_atF HF.out.1 2 (v := (.int .i64 0)) rfl
  have y3 := cell_atF HF.out.1 3 (v := (.int .i64 0)) rfl
  refine bodyPost_ret (v := .tuple #[.agg #[(.bool false), (.string ⟨#[]⟩), (.int .i64 0), (.int .i64 0)], .bool false]) (by simp [results, Try.results29, go_sem, y0, y1, y2, y3]) rfl ?_
  exact ⟨rfl, HF.out.2.mono (Nat.le_of_eq HX.out)⟩
set_option maxHeartbeats 3200000 in
set_option maxRecDepth 100000 in
theorem puse_write (E : List Ev) (v : Value) (i : Nat) (x : Ev) (k : Nat) (pb : Int) (d : ByteArray) (w : World) (hE : Elts w Ev.c 10 v E) (hx : E[i]? = some x) (he : x.err = 0) :
    Calls Try.prog 29 #[v, .agg #[.int .i64 i, .bool true], .int .i64 k, .agg #[.int .i64 pb, .bool true, .string d]] w (UseP ((true, d, i, true)) w) := by
  obtain ⟨a, cap, rfl, hlc, hcm⟩ := elts_len hE
  unfold UseP useA
  dsimp only
  obtain ⟨an, id, ga, wh, aa, le, da, su, er, tx⟩ := x
  dsimp only at *
  subst he
  have HE := Lib.hid (And.intro hE hx)
  have hil := (List.getElem?_eq_some_iff.1 hx).1
  unfold maxLen at hcm
  clear hE hx
  obtain ⟨x0, x1, x2, x3, hb, hz⟩ := four_newU w (.cells #[.int .i64 i, .bool true] 93) (.cells #[.int .i64 pb, .bool true, .string d] 89) (.cells #[.bool false, .string ⟨#[]⟩, .int .i64 0, .int .i64 0] 72) (.cells #[.bool true, .string d, .int .i64 0, .int .i64 1073741824] 72)
  have H := Lib.hid (And.intro x0 (And.intro x1 (And.intro x2 (And.intro x3 (And.intro hb hz)))))
  obtain ⟨X, hX⟩ : ∃ X, w.heap.size = X := ⟨_, rfl⟩
  rw [hX] at H
  have HX := Lib.hid hX
  clear x0 x1 x2 x3 hb hz
  go_enter Try.func29, Try.ntmps29
  go_upto_region 2 with fail
  generalize (((w.alloc (.cells #[.int .i64 i, .bool true] 93)).alloc (.cells #[.int .i64 pb, .bool true, .string d] 89)).alloc (.cells #[.bool false, .string ⟨#[]⟩, .int .i64 0, .int .i64 0] 72)).alloc (.cells #[.bool true, .string d, .int .i64 0, .int .i64 1073741824] 72) = w1 at *
  try rw [hX]
  clear hX
  have a0 := cell_atF H.out.1 0 (v := .int .i64 i) rfl
  have a1 := cell_atF H.out.1 1 (v := .bool true) rfl
  have p0 := cell_atF H.out.2.1 0 (v := .int .i64 pb) rfl
  have p1 := cell_atF H.out.2.1 1 (v := .bool true) rfl
  have p2 := cell_atF H.out.2.1 2 (v := .string d) rfl
  obtain ⟨g, off, rfl, hg, k0, k1, k2, k3, k4, k5, k6, k7, k8, k9⟩ := ev_cells (HE.out.1.below (H.out.2.2.2.2.1.mono (Nat.le_of_eq HX.out))) HE.out.2
  dsimp only at k0 k1 k2 k3 k4 k5 k6 k7 k8 k9
  have hb2 : Below w1.heap.size w1 (w1.alloc (.cells #[.bool an, .int .i64 id, .int .i64 ga, .int .i64 wh, .int .i64 aa, .int .i64 le, .string da, .bool su, .int .i64 0, .string tx] 36)) := (Below.refl _ _).alloc (Nat.le_refl _) _
  have H2 := Lib.hid (And.intro (below_at hb2 (lt_heap H.out.1) H.out.1) (And.intro (below_at hb2 (lt_heap H.out.2.1) H.out.2.1) (And.intro (below_at hb2 (lt_heap H.out.2.2.1) H.out.2.2.1) (And.intro (below_at hb2 (lt_heap H.out.2.2.2.1) H.out.2.2.2.1) (And.intro (heap_alloc_self w1 (.cells #[.bool an, .int .i64 id, .int .i64 ga, .int .i64 wh, .int .i64 aa, .int .i64 le, .string da, .bool su, .int .i64 0, .string tx] 36)) (H.out.2.2.2.2.1.trans (hb2.mono (by have := H.out.2.2.2.2.1.size; have := HX.out; omega))))))))
  have hz := H.out.2.2.2.2.2
  clear hb2
  go_upto_region 5 with fail
  try rw [hz]
  rw [hz] at H2
  generalize w1.alloc (.cells #[.bool an, .int .i64 id, .int .i64 ga, .int .i64 wh, .int .i64 aa, .int .i64 le, .string da, .bool su, .int .i64 0, .string tx] 36) = w2 at *
  clear a0 a1 p0 p1 p2 k0 k1 k2 k3 k4 k5 k6 k7 k8 k9 hg hz H
  have a0 := cell_atF H2.out.1 0 (v := .int .i64 i) rfl
  have a1 := cell_atF H2.out.1 1 (v := .bool true) rfl
  have p0 := cell_atF H2.out.2.1 0 (v := .int .i64 pb) rfl
  have p1 := cell_atF H2.out.2.1 1 (v := .bool true) rfl
  have p2 := cell_atF H2.out.2.1 2 (v := .string d) rfl
  have e4 := cell_atF H2.out.2.2.2.2.1 8 (v := .int .i64 0) rfl
  have e5 := cell_atF H2.out.2.2.2.2.1 9 (v := .string tx) rfl
  have z0 := cell_atF H2.out.2.2.1 0 (v := .bool false) rfl
  have z1 := cell_atF H2.out.2.2.1 1 (v := .string ⟨#[]⟩) rfl
  have z2 := cell_atF H2.out.2.2.1 2 (v := .int .i64 0) rfl
  have z3 := cell_atF H2.out.2.2.1 3 (v := .int .i64 0) rfl
  have zf : ∀ j, w2.frozen? ⟨X + 1 + 1, j, none⟩ = false := fun j => by simp [World.frozen?, H2.out.2.2.1]
  have u0 := cell_atF H2.out.2.2.2.1 0 (v := .bool true) rfl
  have u1 := cell_atF H2.out.2.2.2.1 1 (v := .string d) rfl
  have u2 := cell_atF H2.out.2.2.2.1 2 (v := .int .i64 0) rfl
  have u3 := cell_atF H2.out.2.2.2.1 3 (v := .int .i64 1073741824) rfl
  have uf : ∀ j, w2.frozen? ⟨X + 1 + 1 + 1, j, none⟩ = false := fun j => by simp [World.frozen?, H2.out.2.2.2.1]
  have q1 := heap_set_self H2.out.2.2.2.1 3 (.int .i64 i)
  have o1 : Only (X + 3) w2 (w2.setCell ⟨X + 3, 3, none⟩ (.int .i64 i)) := (Only.refl _ _).set 3 _
  have H3 := Lib.hid (And.intro ((o1.block _ (lt_heap H2.out.2.1) (by omega)).trans H2.out.2.1) (And.intro ((o1.block _ (lt_heap H2.out.2.2.1) (by omega)).trans H2.out.2.2.1) (And.intro q1 (And.intro ((o1.block _ (lt_heap H2.out.2.2.2.2.1) (by omega)).trans H2.out.2.2.2.2.1) (H2.out.2.2.2.2.2.trans (o1.below (by omega) (by have := H2.out.2.2.2.2.2.size; have := HX.out; omega)))))))
  clear q1 o1
  go_upto_region 8 with fail
  generalize w2.setCell ⟨X + 1 + 1 + 1, 3, none⟩ (.int .i64 i) = w3 at *
  clear a0 a1 p0 p1 p2 e4 e5 z0 z1 z2 z3 zf u0 u1 u2 u3 uf H2
  have p1 := cell_atF H3.out.1 1 (v := .bool true) rfl
  have e5 := cell_atF H3.out.2.2.2.1 9 (v := .string tx) rfl
  have z0 := cell_atF H3.out.2.1 0 (v := .bool false) rfl
  have z1 := cell_atF H3.out.2.1 1 (v := .string ⟨#[]⟩) rfl
  have z2 := cell_atF H3.out.2.1 2 (v := .int .i64 0) rfl
  have z3 := cell_atF H3.out.2.1 3 (v := .int .i64 0) rfl
  have zf : ∀ j, w3.frozen? ⟨X + 1 + 1, j, none⟩ = false := fun j => by simp [World.frozen?, H3.out.2.1]
  have u0 := cell_atF H3.out.2.2.1 0 (v := (.bool true)) rfl
  have u1 := cell_atF H3.out.2.2.1 1 (v := (.string d)) rfl
  have u2 := cell_atF H3.out.2.2.1 2 (v := (.int .i64 0)) rfl
  have u3 := cell_atF H3.out.2.2.1 3 (v := (.int .i64 i)) rfl
  have uf : ∀ j, w3.frozen? ⟨X + 1 + 1 + 1, j, none⟩ = false := fun j => by simp [World.frozen?, H3.out.2.2.1]
  have HB := Lib.hid (And.intro H3.out.2.1 H3.out.2.2.2.2)
  obtain ⟨f, o⟩ := four_set HB.out.1 (a' := (.bool true)) (b' := (.string d)) (c' := (.int .i64 0)) (d' := (.int .i64 i))
  have HF := Lib.hid (And.intro f (HB.out.2.trans (o.below (by omega) (by have := HB.out.2.size; have := HX.out; omega))))
  clear f o
  go_wp2_with fail
  clear p1 e5 z0 z1 z2 z3 zf u0 u1 u2 u3 uf
  generalize (((w3.setCell ⟨X + 1 + 1, 0, none⟩ (.bool true)).setCell ⟨X + 1 + 1, 1, none⟩ (.string d)).setCell ⟨X + 1 + 1, 2, none⟩ (.int .i64 0)).setCell ⟨X + 1 + 1, 3, none⟩ (.int .i64 i) = wf at *
  have y0 := cell_atF HF.out.1 0 (v := (.bool true)) rfl
  have y1 := cell_atF HF.out.1 1 (v := (.string d)) rfl
  have y2 := cell_atF HF.out.1 2 (v := (.int .i64 0)) rfl
  have y3 := cell_atF HF.out.1 3 (v := (.int .i64 i)) rfl
  refine bodyPost_ret (v := .tuple #[.agg #[(.bool true), (.string d), (.int .i64 0), (.int .i64 i)], .bool true]) (by simp [results, Try.results29, go_sem, y0, y1, y2, y3]) rfl ?_
  exact ⟨rfl, HF.out.2.mono (Nat.le_of_eq HX.out)⟩
set_option maxHeartbeats 3200000 in
set_option maxRecDepth 100000 in
theorem puse_read (E : List Ev) (v : Value) (i : Nat) (x : Ev) (k : Nat) (pb : Int) (d : ByteArray) (w : World) (hE : Elts w Ev.c 10 v E) (hx : E[i]? = some x) (hk : k < 1000) (ht : x.txt.size ≤ maxLen) (he : x.err = 0) :
    Calls Try.prog 29 #[v, .agg #[.int .i64 i, .bool true], .int .i64 k, .agg #[.int .i64 pb, .bool false, .string d]] w (UseP ((false, x.txt.extract (min (32 * k) x.txt.size) (min (min (32 * k) x.txt.size + 32) x.txt.size), i, true)) w) := by
  obtain ⟨a, cap, rfl, hlc, hcm⟩ := elts_len hE
  unfold UseP useA
  dsimp only
  obtain ⟨an, id, ga, wh, aa, le, da, su, er, tx⟩ := x
  dsimp only at *
  subst he
  have HE := Lib.hid (And.intro hE hx)
  have hil := (List.getElem?_eq_some_iff.1 hx).1
  unfold maxLen at hcm
  clear hE hx
  obtain ⟨x0, x1, x2, x3, hb, hz⟩ := four_newU w (.cells #[.int .i64 i, .bool true] 93) (.cells #[.int .i64 pb, .bool false, .string d] 89) (.cells #[.bool false, .string ⟨#[]⟩, .int .i64 0, .int .i64 0] 72) (.cells #[.bool false, .string d, .int .i64 0, .int .i64 1073741824] 72)
  have H := Lib.hid (And.intro x0 (And.intro x1 (And.intro x2 (And.intro x3 (And.intro hb hz)))))
  obtain ⟨X, hX⟩ : ∃ X, w.heap.size = X := ⟨_, rfl⟩
  rw [hX] at H
  have HX := Lib.hid hX
  clear x0 x1 x2 x3 hb hz
  go_enter Try.func29, Try.ntmps29
  go_upto_region 2 with fail
  generalize (((w.alloc (.cells #[.int .i64 i, .bool true] 93)).alloc (.cells #[.int .i64 pb, .bool false, .string d] 89)).alloc (.cells #[.bool false, .string ⟨#[]⟩, .int .i64 0, .int .i64 0] 72)).alloc (.cells #[.bool false, .string d, .int .i64 0, .int .i64 1073741824] 72) = w1 at *
  try rw [hX]
  clear hX
  have a0 := cell_atF H.out.1 0 (v := .int .i64 i) rfl
  have a1 := cell_atF H.out.1 1 (v := .bool true) rfl
  have p0 := cell_atF H.out.2.1 0 (v := .int .i64 pb) rfl
  have p1 := cell_atF H.out.2.1 1 (v := .bool false) rfl
  have p2 := cell_atF H.out.2.1 2 (v := .string d) rfl
  obtain ⟨g, off, rfl, hg, k0, k1, k2, k3, k4, k5, k6, k7, k8, k9⟩ := ev_cells (HE.out.1.below (H.out.2.2.2.2.1.mono (Nat.le_of_eq HX.out))) HE.out.2
  dsimp only at k0 k1 k2 k3 k4 k5 k6 k7 k8 k9
  have hb2 : Below w1.heap.size w1 (w1.alloc (.cells #[.bool an, .int .i64 id, .int .i64 ga, .int .i64 wh, .int .i64 aa, .int .i64 le, .string da, .bool su, .int .i64 0, .string tx] 36)) := (Below.refl _ _).alloc (Nat.le_refl _) _
  have H2 := Lib.hid (And.intro (below_at hb2 (lt_heap H.out.1) H.out.1) (And.intro (below_at hb2 (lt_heap H.out.2.1) H.out.2.1) (And.intro (below_at hb2 (lt_heap H.out.2.2.1) H.out.2.2.1) (And.intro (below_at hb2 (lt_heap H.out.2.2.2.1) H.out.2.2.2.1) (And.intro (heap_alloc_self w1 (.cells #[.bool an, .int .i64 id, .int .i64 ga, .int .i64 wh, .int .i64 aa, .int .i64 le, .string da, .bool su, .int .i64 0, .string tx] 36)) (H.out.2.2.2.2.1.trans (hb2.mono (by have := H.out.2.2.2.2.1.size; have := HX.out; omega))))))))
  have hz := H.out.2.2.2.2.2
  clear hb2
  go_upto_region 5 with fail
  try rw [hz]
  rw [hz] at H2
  generalize w1.alloc (.cells #[.bool an, .int .i64 id, .int .i64 ga, .int .i64 wh, .int .i64 aa, .int .i64 le, .string da, .bool su, .int .i64 0, .string tx] 36) = w2 at *
  clear a0 a1 p0 p1 p2 k0 k1 k2 k3 k4 k5 k6 k7 k8 k9 hg hz H
  have a0 := cell_atF H2.out.1 0 (v := .int .i64 i) rfl
  have a1 := cell_atF H2.out.1 1 (v := .bool true) rfl
  have p0 := cell_atF H2.out.2.1 0 (v := .int .i64 pb) rfl
  have p1 := cell_atF H2.out.2.1 1 (v := .bool false) rfl
  have p2 := cell_atF H2.out.2.1 2 (v := .string d) rfl
  have e4 := cell_atF H2.out.2.2.2.2.1 8 (v := .int .i64 0) rfl
  have e5 := cell_atF H2.out.2.2.2.2.1 9 (v := .string tx) rfl
  have z0 := cell_atF H2.out.2.2.1 0 (v := .bool false) rfl
  have z1 := cell_atF H2.out.2.2.1 1 (v := .string ⟨#[]⟩) rfl
  have z2 := cell_atF H2.out.2.2.1 2 (v := .int .i64 0) rfl
  have z3 := cell_atF H2.out.2.2.1 3 (v := .int .i64 0) rfl
  have zf : ∀ j, w2.frozen? ⟨X + 1 + 1, j, none⟩ = false := fun j => by simp [World.frozen?, H2.out.2.2.1]
  have u0 := cell_atF H2.out.2.2.2.1 0 (v := .bool false) rfl
  have u1 := cell_atF H2.out.2.2.2.1 1 (v := .string d) rfl
  have u2 := cell_atF H2.out.2.2.2.1 2 (v := .int .i64 0) rfl
  have u3 := cell_atF H2.out.2.2.2.1 3 (v := .int .i64 1073741824) rfl
  have uf : ∀ j, w2.frozen? ⟨X + 1 + 1 + 1, j, none⟩ = false := fun j => by simp [World.frozen?, H2.out.2.2.2.1]
  have q1 := heap_set_self H2.out.2.2.2.1 3 (.int .i64 i)
  have o1 : Only (X + 3) w2 (w2.setCell ⟨X + 3, 3, none⟩ (.int .i64 i)) := (Only.refl _ _).set 3 _
  have H3 := Lib.hid (And.intro ((o1.block _ (lt_heap H2.out.2.1) (by omega)).trans H2.out.2.1) (And.intro ((o1.block _ (lt_heap H2.out.2.2.1) (by omega)).trans H2.out.2.2.1) (And.intro q1 (And.intro ((o1.block _ (lt_heap H2.out.2.2.2.2.1) (by omega)).trans H2.out.2.2.2.2.1) (H2.out.2.2.2.2.2.trans (o1.below (by omega) (by have := H2.out.2.2.2.2.2.size; have := HX.out; omega)))))))
  clear q1 o1
  go_upto_region 8 with fail
  generalize w2.setCell ⟨X + 1 + 1 + 1, 3, none⟩ (.int .i64 i) = w3 at *
  clear a0 a1 p0 p1 p2 e4 e5 z0 z1 z2 z3 zf u0 u1 u2 u3 uf H2
  have p1 := cell_atF H3.out.1 1 (v := .bool false) rfl
  have e5 := cell_atF H3.out.2.2.2.1 9 (v := .string tx) rfl
  have z0 := cell_atF H3.out.2.1 0 (v := .bool false) rfl
  have z1 := cell_atF H3.out.2.1 1 (v := .string ⟨#[]⟩) rfl
  have z2 := cell_atF H3.out.2.1 2 (v := .int .i64 0) rfl
  have z3 := cell_atF H3.out.2.1 3 (v := .int .i64 0) rfl
  have zf : ∀ j, w3.frozen? ⟨X + 1 + 1, j, none⟩ = false := fun j => by simp [World.frozen?, H3.out.2.1]
  have u0 := cell_atF H3.out.2.2.1 0 (v := (.bool false)) rfl
  have u1 := cell_atF H3.out.2.2.1 1 (v := (.string d)) rfl
  have u2 := cell_atF H3.out.2.2.1 2 (v := (.int .i64 0)) rfl
  have u3 := cell_atF H3.out.2.2.1 3 (v := (.int .i64 i)) rfl
  have uf : ∀ j, w3.frozen? ⟨X + 1 + 1 + 1, j, none⟩ = false := fun j => by simp [World.frozen?, H3.out.2.2.1]
  go_upto_region 11 with fail
  clear p1 e5 z0 z1 z2 z3 zf u0 u1 u2 u3 uf
  have hTe : tx.extract (min ((k : Int) * 32) tx.size).toNat (min (min ((k : Int) * 32) tx.size + 32) tx.size).toNat = tx.extract (min (32 * k) tx.size) (min (min (32 * k) tx.size + 32) tx.size) := by
    rw [show (min ((k : Int) * 32) tx.size).toNat = min (32 * k) tx.size by omega, show (min (min ((k : Int) * 32) tx.size + 32) tx.size).toNat = min (min (32 * k) tx.size + 32) tx.size by omega]
  simp only [hTe]
  clear hTe
  obtain ⟨T, hT⟩ : ∃ T, tx.extract (min (32 * k) tx.size) (min (min (32 * k) tx.size + 32) tx.size) = T := ⟨_, rfl⟩
  simp only [hT]
  have HT := Lib.hid hT
  clear hT
  have q1 := heap_set_self H3.out.2.2.1 1 (.string T)
  have o1 : Only (X + 3) w3 (w3.setCell ⟨X + 3, 1, none⟩ (.string T)) := (Only.refl _ _).set 1 _
  have H4 := Lib.hid (And.intro ((o1.block _ (lt_heap H3.out.2.1) (by omega)).trans H3.out.2.1) (And.intro q1 (H3.out.2.2.2.2.trans (o1.below (by omega) (by have := H3.out.2.2.2.2.size; have := HX.out; omega)))))
  clear q1 o1
  generalize w3.setCell ⟨X + 1 + 1 + 1, 1, none⟩ (.string T) = w4 at *
  have z0 := cell_atF H4.out.1 0 (v := .bool false) rfl
  have z1 := cell_atF H4.out.1 1 (v := .string ⟨#[]⟩) rfl
  have z2 := cell_atF H4.out.1 2 (v := .int .i64 0) rfl
  have z3 := cell_atF H4.out.1 3 (v := .int .i64 0) rfl
  have zf : ∀ j, w4.frozen? ⟨X + 1 + 1, j, none⟩ = false := fun j => by simp [World.frozen?, H4.out.1]
  have u0 := cell_atF H4.out.2.1 0 (v := (.bool false)) rfl
  have u1 := cell_atF H4.out.2.1 1 (v := (.string T)) rfl
  have u2 := cell_atF H4.out.2.1 2 (v := (.int .i64 0)) rfl
  have u3 := cell_atF H4.out.2.1 3 (v := (.int .i64 i)) rfl
  have uf : ∀ j, w4.frozen? ⟨X + 1 + 1 + 1, j, none⟩ = false := fun j => by simp [World.frozen?, H4.out.2.1]
  have HB := Lib.hid (And.intro H4.out.1 H4.out.2.2)
  obtain ⟨f, o⟩ := four_set HB.out.1 (a' := (.bool false)) (b' := (.string T)) (c' := (.int .i64 0)) (d' := (.int .i64 i))
  have HF := Lib.hid (And.intro f (HB.out.2.trans (o.below (by omega) (by have := HB.out.2.size; have := HX.out; omega))))
  clear f o
  go_wp2_with fail
  clear z0 z1 z2 z3 zf u0 u1 u2 u3 uf
  generalize (((w4.setCell ⟨X + 1 + 1, 0, none⟩ (.bool false)).setCell ⟨X + 1 + 1, 1, none⟩ (.string T)).setCell ⟨X + 1 + 1, 2, none⟩ (.int .i64 0)).setCell ⟨X + 1 + 1, 3, none⟩ (.int .i64 i) = wf at *
  have y0 := cell_atF HF.out.1 0 (v := (.bool false)) rfl
  have y1 := cell_atF HF.out.1 1 (v := (.string T)) rfl
  have y2 := cell_atF HF.out.1 2 (v := (.int .i64 0)) rfl
  have y3 := cell_atF HF.out.1 3 (v := (.int .i64 i)) rfl
  refine bodyPost_ret (v := .tuple #[.agg #[(.bool false), (.string T), (.int .i64 0), (.int .i64 i)], .bool true]) (by simp [results, Try.results29, go_sem, y0, y1, y2, y3]) rfl ?_
  exact ⟨by rw [HT.out], HF.out.2.mono (Nat.le_of_eq HX.out)⟩
theorem puse (E : List Ev) (v : Value) (o : Option Nat) (k : Nat) (pb : Int) (wr : Bool) (d : ByteArray) (w : World) (hE : Elts w Ev.c 10 v E) (hk : k < 1000) (ho : ∀ i, o = some i → ∃ x, E[i]? = some x ∧ x.txt.size ≤ maxLen) :
    Calls Try.prog 29 #[v, tolV o, .int .i64 k, .agg #[.int .i64 pb, .bool wr, .string d]] w (UseP (useS E o k wr d) w) := by
  cases o with
  | none => exact puse_none E v k pb wr d w hE
  | some i =>
    obtain ⟨x, hx, ht⟩ := ho i rfl
    have e : useS E (some i) k wr d = if x.err = 0 then (if wr then (true, d, (i : Int), true) else (false, x.txt.extract (min (32 * k) x.txt.size) (min (min (32 * k) x.txt.size + 32) x.txt.size), (i : Int), true)) else (false, ⟨#[]⟩, 0, false) := by
      simp only [useS, hx]
    rw [e]
    by_cases he : x.err = 0
    · rw [if_pos he]
      cases wr
      · exact puse_read E v i x k pb d w hE hx hk ht he
      · exact puse_write E v i x k pb d w hE hx he
    · rw [if_neg he]
      exact puse_bad E v i x k pb wr d w hE hx he
end Go.Proofs.Ytodjlaapmbnahaa
