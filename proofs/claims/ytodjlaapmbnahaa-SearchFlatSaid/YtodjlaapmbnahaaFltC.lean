/-
  flat: what is told of something that is done at once (Do).
-/
import Derived.Test.YtodjlaapmbnahaaFltB
namespace Go.Proofs.Ytodjlaapmbnahaa
open Go.RowKit
set_option linter.unusedVariables false
set_option linter.unusedSimpArgs false

theorem cell_atF {w : World} {b : Nat} {c : Array Value} {t : TypeId} {fr : Nat × Nat} (h : w.heap[b]? = some (.cells c t fr)) (j : Nat) {v : Value} (hv : c[j]? = some v) : w.cell? ⟨b, j, none⟩ = some v := by simp [World.cell?, h, hv]
def replyA (i e : Int) (s : ByteArray) : Array Value := #[.int .i64 i, .int .i64 e, .string s]
theorem two_newF (w : World) (o p : Obj) : ((w.alloc o).alloc p).heap[w.heap.size]? = some o ∧ ((w.alloc o).alloc p).heap[w.heap.size + 1]? = some p ∧ Below w.heap.size w ((w.alloc o).alloc p) ∧ ((w.alloc o).alloc p).heap.size = w.heap.size + 2 := by
  refine ⟨?_, ?_, ((Below.refl _ _).alloc (Nat.le_refl _) _).alloc (by simp) _, by simp⟩
  · have h := heap_alloc_self w o
    exact below_at ((Below.refl _ _).alloc (Nat.le_refl _) _) (lt_heap h) h
  · have h := heap_alloc_self (w.alloc o) p
    simpa using h
/-- the answer's three cells, stored -/
theorem three_set {w : World} {X : Nat} {t : TypeId} {a b c a' b' c' : Value} (h : w.heap[X]? = some (.cells #[a, b, c] t)) :
    (((w.setCell ⟨X, 0, none⟩ a').setCell ⟨X, 1, none⟩ b').setCell ⟨X, 2, none⟩ c').heap[X]? = some (.cells #[a', b', c'] t) ∧ Only X w (((w.setCell ⟨X, 0, none⟩ a').setCell ⟨X, 1, none⟩ b').setCell ⟨X, 2, none⟩ c') := by
  have h1 : (w.setCell ⟨X, 0, none⟩ a').heap[X]? = some (.cells #[a', b, c] t) := heap_set_self h 0 _
  have h2 : ((w.setCell ⟨X, 0, none⟩ a').setCell ⟨X, 1, none⟩ b').heap[X]? = some (.cells #[a', b', c] t) := heap_set_self h1 1 _
  exact ⟨heap_set_self h2 2 _, (((Only.refl _ _).set 0 _).set 1 _).set 2 _⟩
theorem div32 (n : Nat) : ((32 * n : Nat) : Int).tdiv 32 = n := by
  rw [Int.tdiv_eq_ediv_of_nonneg (by omega)]
  omega
def FNoP (X : Nat) (i e : Int) (w : World) (ev : Ending) (w' : World) : Prop := ev = .returned (.agg (replyA i e ⟨#[]⟩)) ∧ Below X w w'
set_option maxHeartbeats 3200000 in
set_option maxRecDepth 100000 in
theorem fdo_no (b g : Nat) (L : List ByteArray) (i W A Ln : Int) (D : ByteArray) (S : Bool) (w : World) (hA : (Lit.int .i64 A).wf = true) (hLn : (Lit.int .i64 Ln).wf = true) (hD : D.size ≤ maxLen) (hL : Blks L) (hn : L.length ≤ 64) (h : FlatAt b g L w) (hno : W = 3 ∨ ¬ AskMay W A Ln D L.length) :
    Calls Try.prog 23 #[.pointer (some ⟨b, 0, none⟩), .int .i64 i, .agg (askA W A Ln D S)] w (FNoP w.heap.size i (if AskMay W A Ln D L.length then 0 else 1) w) := by
  have c1 := fun w => nmay W A Ln D S L.length w hA hLn hD
  have c2 := fun w => nparts_no W A Ln D S L.length w hA hLn hD hno
  obtain ⟨E, hE⟩ : ∃ E : Int, (if AskMay W A Ln D L.length then 0 else 1) = E := ⟨_, rfl⟩
  rw [hE] at c1 ⊢
  unfold FNoP askA replyA at *
  obtain ⟨x0, x1, hb, hz⟩ := two_newF w (.cells #[.int .i64 W, .int .i64 A, .int .i64 Ln, .string D, .bool S] 33) (.cells #[.int .i64 0, .int .i64 0, .string ⟨#[]⟩] 52)
  have hf := h.below hb h.lt.1 h.lt.2
  have cb := fbytes b g L _ hL hf
  obtain ⟨T, hT⟩ : ∃ T : ByteArray, (⟨(flatL L).toArray⟩ : ByteArray) = T := ⟨_, rfl⟩
  have hTs : (T.size : Int) = ((32 * L.length : Nat) : Int) := by rw [← hT]; show (((flatL L).toArray.size : Nat) : Int) = _; rw [List.size_toArray, flatL_len hL]
  have hdv : (T.size : Int).tdiv 32 = (L.length : Int) := by rw [hTs, div32]
  rw [hT] at cb
  obtain ⟨n, hnn⟩ : ∃ n, L.length = n := ⟨_, rfl⟩
  rw [hnn] at c1 c2 hdv
  have hwn : wrap64 (n : Int) = n := by unfold wrap64; omega
  have H := Lib.hid (And.intro x0 (And.intro x1 (And.intro hb hz)))
  clear hE hf hT hTs hnn hno hA hLn hD hL h hn x0 x1 hb hz
  go_enter Try.func23, Try.ntmps23
  go_upto_region 1 with fail
  generalize (w.alloc (.cells #[.int .i64 W, .int .i64 A, .int .i64 Ln, .string D, .bool S] 33)).alloc (.cells #[.int .i64 0, .int .i64 0, .string ⟨#[]⟩] 52) = w1 at *
  have k0 := cell_atF H.out.1 0 (v := .int .i64 W) rfl
  have k1 := cell_atF H.out.1 1 (v := .int .i64 A) rfl
  have k2 := cell_atF H.out.1 2 (v := .int .i64 Ln) rfl
  have k3 := cell_atF H.out.1 3 (v := .string D) rfl
  have k4 := cell_atF H.out.1 4 (v := .bool S) rfl
  go_wp2_with fail
  refine Calls.mono cb ?_
  rintro e w2 ⟨rfl, rfl⟩
  clear cb
  go_wp2_with fail
  refine Calls.mono (c1 _) ?_
  rintro e w2 ⟨rfl, hb2⟩
  have B2 := Lib.hid (H.out.2.2.1.trans (hb2.mono H.out.2.2.1.size))
  have x2 := below_at hb2 (lt_heap H.out.1) H.out.1
  have y2 := below_at hb2 (lt_heap H.out.2.1) H.out.2.1
  have hz2 : w.heap.size + 2 ≤ w2.heap.size := by rw [← H.out.2.2.2]; exact hb2.size
  clear k0 k1 k2 k3 k4 c1 hb2 H
  have r3 := heap_alloc_self w2 (.cells #[.int .i64 i, .int .i64 E, .string ⟨#[]⟩] 52)
  have b3 : Below w2.heap.size w2 (w2.alloc (.cells #[.int .i64 i, .int .i64 E, .string ⟨#[]⟩] 52)) := (Below.refl _ _).alloc (Nat.le_refl _) _
  have H3 := Lib.hid (And.intro (below_at b3 (lt_heap x2) x2) (And.intro (below_at b3 (lt_heap y2) y2) (And.intro r3 (And.intro (B2.out.trans (b3.mono B2.out.size)) hz2))))
  clear x2 y2 r3 b3 B2 hz2
  go_upto_region 3 with fail
  generalize w2.alloc (.cells #[.int .i64 i, .int .i64 E, .string ⟨#[]⟩] 52) = w3 at *
  obtain ⟨R, hR⟩ : ∃ R, w2.heap.size = R := ⟨_, rfl⟩
  rw [hR] at H3
  try rw [hR]
  clear hR
  have k0 := cell_atF H3.out.1 0 (v := .int .i64 W) rfl
  have k1 := cell_atF H3.out.1 1 (v := .int .i64 A) rfl
  have k2 := cell_atF H3.out.1 2 (v := .int .i64 Ln) rfl
  have k3 := cell_atF H3.out.1 3 (v := .string D) rfl
  have k4 := cell_atF H3.out.1 4 (v := .bool S) rfl
  go_wp2_with fail
  refine Calls.mono (c2 _) ?_
  rintro e w4 ⟨rfl, hb4⟩
  have H4 := Lib.hid (And.intro (below_at hb4 (lt_heap H3.out.2.1) H3.out.2.1) (And.intro (below_at hb4 (lt_heap H3.out.2.2.1) H3.out.2.2.1) (And.intro (H3.out.2.2.2.1.trans (hb4.mono H3.out.2.2.2.1.size)) H3.out.2.2.2.2)))
  clear k0 k1 k2 k3 k4 c2 hb4 H3
  go_wp2_with fail
  go_loopw [25] (fun j wr => j = .int .i64 0 ∧ Hid (wr = w4)) (fun _ _ => 0)
  case atStart => exact ⟨rfl, Lib.hid rfl⟩
  case round =>
    obtain ⟨rfl, hw⟩ := hrel
    obtain rfl := hw.out
    clear hw
    have r0 := cell_atF H4.out.2.1 0 (v := .int .i64 i) rfl
    have r1 := cell_atF H4.out.2.1 1 (v := .int .i64 E) rfl
    have r2 := cell_atF H4.out.2.1 2 (v := .string ⟨#[]⟩) rfl
    have z0 := cell_atF H4.out.1 0 (v := .int .i64 0) rfl
    have z1 := cell_atF H4.out.1 1 (v := .int .i64 0) rfl
    have z2 := cell_atF H4.out.1 2 (v := .string ⟨#[]⟩) rfl
    have zf : ∀ j, wr.frozen? ⟨w.heap.size + 1, j, none⟩ = false := fun j => by simp [World.frozen?, H4.out.1]
    obtain ⟨f, o⟩ := three_set H4.out.1 (a' := .int .i64 i) (b' := .int .i64 E) (c' := .string ⟨#[]⟩)
    have H5 := Lib.hid (And.intro f (H4.out.2.2.1.trans (o.below (by omega) H4.out.2.2.1.size)))
    clear f o
    go_wp2_with fail
    generalize ((wr.setCell ⟨w.heap.size + 1, 0, none⟩ (.int .i64 i)).setCell ⟨w.heap.size + 1, 1, none⟩ (.int .i64 E)).setCell ⟨w.heap.size + 1, 2, none⟩ (.string ⟨#[]⟩) = wf at *
    have y0 := cell_atF H5.out.1 0 (v := .int .i64 i) rfl
    have y1 := cell_atF H5.out.1 1 (v := .int .i64 E) rfl
    have y2 := cell_atF H5.out.1 2 (v := .string ⟨#[]⟩) rfl
    refine bodyPost_ret (v := .agg #[.int .i64 i, .int .i64 E, .string ⟨#[]⟩]) (by simp [results, Try.results23, go_sem, y0, y1, y2]) rfl ?_
    exact ⟨rfl, H5.out.2⟩
end Go.Proofs.Ytodjlaapmbnahaa
