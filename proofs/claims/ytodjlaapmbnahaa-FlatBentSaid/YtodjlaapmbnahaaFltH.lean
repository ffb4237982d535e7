/-
  tarnref35: Do.
-/
import Derived.Test.YtodjlaapmbnahaaFltG
namespace Go.Proofs.Ytodjlaapmbnahaa
open Go.RowKit
set_option linter.unusedVariables false
set_option linter.unusedSimpArgs false

/-- the volume's blocks, at a row -/
def VAt (p cap : Nat) (L : List ByteArray) (w : World) : Prop := L.length ≤ cap ∧ cap ≤ maxLen ∧ SR w (.slice (some ⟨p, 0, none⟩) L.length cap) 1 L.length (sCellsF L) ∧ p < w.heap.size
theorem VAt.below {p cap : Nat} {L : List ByteArray} {w w' : World} (h : VAt p cap L w) (hb : Below w.heap.size w w') : VAt p cap L w' := ⟨h.1, h.2.1, h.2.2.1.below hb, Nat.lt_of_lt_of_le h.2.2.2 hb.size⟩
theorem VAt.only {p cap g : Nat} {L : List ByteArray} {w w' : World} (h : VAt p cap L w) (ho : Only g w w') (hg : p ≠ g) : VAt p cap L w' := by
  refine ⟨h.1, h.2.1, ?_, Nat.lt_of_lt_of_le h.2.2.2 ho.size⟩
  obtain ⟨a, c, e, h1, h2, h3, h4⟩ := h.2.2.1
  simp only [Value.slice.injEq, true_and] at e
  obtain ⟨e1, e2⟩ := e
  subst e1 e2
  refine ⟨_, _, rfl, h1, h2, h3, h4.imp id ?_⟩
  rintro ⟨b, off, e, hlt, hc⟩
  simp only [Option.some.injEq, Addr.mk.injEq, and_true] at e
  obtain ⟨e1, e2⟩ := e
  subst e1 e2
  exact ⟨p, 0, rfl, Nat.lt_of_lt_of_le hlt ho.size, fun j u hj => (World.cell?_of_block (a := ⟨p, 0 + j, none⟩) (ho.block p hlt hg)).trans (hc j u hj)⟩
theorem VAt.at_ {p cap : Nat} {L : List ByteArray} {w : World} (h : VAt p cap L w) {j : Nat} (hj : j < L.length) : w.cell? ⟨p, j, none⟩ = some (.string L[j]) := by
  obtain ⟨a, c, e, h1, h2, h3, h4⟩ := h.2.2.1
  simp only [Value.slice.injEq, true_and] at e
  obtain ⟨e1, e2⟩ := e
  subst e1 e2
  rcases h4 with h4 | ⟨b, off, e, hlt, hc⟩
  · omega
  · simp only [Option.some.injEq, Addr.mk.injEq, and_true] at e
    obtain ⟨e1, e2⟩ := e
    subst e1 e2
    have := hc j (.string L[j]) (by simp [sCellsF, List.getElem?_eq_getElem hj])
    simpa using this
theorem VAt.owns {base : Nat} {v : Value} {L : List ByteArray} {w : World} (h : w.ownsRow base 9 1 v L.length (sCellsF L)) (h0 : 0 < L.length) : ∃ p cap, v = .slice (some ⟨p, 0, none⟩) L.length cap ∧ VAt p cap L w ∧ base ≤ p ∧ ∀ j, w.frozen? ⟨p, j, none⟩ = false := by
  have hs := SR.owns h
  rcases h.2 with ⟨-, h2⟩ | ⟨g, cap, cur, rfl, h1, h2, h3, h4, h5, h6⟩
  · omega
  · exact ⟨g, cap, rfl, ⟨h3, h4, hs, lt_heap h2⟩, h1, fun j => by simp [World.frozen?, h2]⟩
theorem owns_emptyF (w : World) : (w.alloc (.cells #[] 9)).ownsRow w.heap.size 9 1 (.slice (some ⟨w.heap.size, 0, none⟩) 0 0) 0 [] :=
  ⟨rfl, .inr ⟨w.heap.size, 0, #[], rfl, Nat.le_refl _, heap_alloc_self _ _, Nat.le_refl _, Nat.zero_le _, rfl, rfl⟩⟩
def RNoP (X : Nat) (p cap : Nat) (L : List ByteArray) (w : World) (ev : Ending) (w' : World) : Prop := ev = .returned (.tuple #[.agg #[.slice (some ⟨p, 0, none⟩) L.length cap], .string ⟨#[]⟩, .bool false]) ∧ Below X w w'
theorem three_newF (w : World) (o p q : Obj) : (((w.alloc o).alloc p).alloc q).heap[w.heap.size]? = some o ∧ (((w.alloc o).alloc p).alloc q).heap[w.heap.size + 1]? = some p ∧ (((w.alloc o).alloc p).alloc q).heap[w.heap.size + 2]? = some q ∧ Below w.heap.size w (((w.alloc o).alloc p).alloc q) ∧ (((w.alloc o).alloc p).alloc q).heap.size = w.heap.size + 3 := by
  obtain ⟨h0, h1, h2, h3⟩ := two_newF w o p
  have b := (Below.refl ((w.alloc o).alloc p).heap.size ((w.alloc o).alloc p)).alloc (Nat.le_refl _) q
  have h4 := heap_alloc_self ((w.alloc o).alloc p) q
  rw [h3] at h4
  exact ⟨below_at b (lt_heap h0) h0, below_at b (lt_heap h1) h1, h4, h2.alloc h2.size q, by rw [World.size_alloc, h3]⟩
set_option maxHeartbeats 3200000 in
set_option maxRecDepth 100000 in
theorem rdo_no (p cap : Nat) (L : List ByteArray) (W A Ln : Int) (D : ByteArray) (S : Bool) (w : World) (hA : (Lit.int .i64 A).wf = true) (hLn : (Lit.int .i64 Ln).wf = true) (hD : D.size ≤ maxLen) (hn : L.length ≤ 64) (hno : ¬ AskMay W A Ln D L.length) :
    Calls Try.prog 18 #[.agg #[.slice (some ⟨p, 0, none⟩) L.length cap], .agg (askA W A Ln D S)] w (RNoP w.heap.size p cap L w) := by
  obtain ⟨n, hnn⟩ : ∃ n, L.length = n := ⟨_, rfl⟩
  unfold RNoP
  rw [hnn] at hno hn ⊢
  have c1 := fun w => rmay35 W A Ln D S n w hn hA hLn hD
  have hd : decide (AskMay W A Ln D n) = false := by simpa using hno
  rw [hd] at c1
  unfold askA at *
  obtain ⟨x0, x1, x2, hb, hz⟩ := three_newF w (.cells #[.slice (some ⟨p, 0, none⟩) n cap] 47) (.cells #[.int .i64 W, .int .i64 A, .int .i64 Ln, .string D, .bool S] 33) (.cells #[.slice none 0 0] 47)
  have H := Lib.hid (And.intro x0 (And.intro x1 (And.intro x2 (And.intro hb hz))))
  clear x0 x1 x2 hb hz hd hno hA hLn hD hnn
  go_enter Try.func18, Try.ntmps18
  go_upto_region 1 with fail
  generalize ((w.alloc (.cells #[.slice (some ⟨p, 0, none⟩) n cap] 47)).alloc (.cells #[.int .i64 W, .int .i64 A, .int .i64 Ln, .string D, .bool S] 33)).alloc (.cells #[.slice none 0 0] 47) = w1 at *
  have k0 := cell_atF H.out.2.1 0 (v := .int .i64 W) rfl
  have k1 := cell_atF H.out.2.1 1 (v := .int .i64 A) rfl
  have k2 := cell_atF H.out.2.1 2 (v := .int .i64 Ln) rfl
  have k3 := cell_atF H.out.2.1 3 (v := .string D) rfl
  have k4 := cell_atF H.out.2.1 4 (v := .bool S) rfl
  have v0 := cell_atF H.out.1 0 (v := .slice (some ⟨p, 0, none⟩) n cap) rfl
  go_wp2_with fail
  refine Calls.mono (c1 _) ?_
  rintro e w2 ⟨rfl, hb2⟩
  have x0 := below_at hb2 (lt_heap H.out.1) H.out.1
  have x2 := below_at hb2 (lt_heap H.out.2.2.1) H.out.2.2.1
  have v0 := cell_atF x0 0 (v := .slice (some ⟨p, 0, none⟩) n cap) rfl
  have z0 := cell_atF x2 0 (v := .slice none 0 0) rfl
  have zf : ∀ j, w2.frozen? ⟨w.heap.size + 2, j, none⟩ = false := fun j => by simp [World.frozen?, x2]
  have g1 := heap_set_self x2 0 (.slice (some ⟨p, 0, none⟩) n cap)
  have HB := Lib.hid (And.intro g1 ((H.out.2.2.2.1.trans (hb2.mono H.out.2.2.2.1.size)).trans (((Only.refl (w.heap.size + 2) w2).set 0 (.slice (some ⟨p, 0, none⟩) n cap)).below (B := w.heap.size) (by omega) (by have := hb2.size; have := H.out.2.2.2.2; omega))))
  clear k0 k1 k2 k3 k4 hb2 x0 x2 g1 c1
  go_wp2_with fail
  generalize w2.setCell ⟨w.heap.size + 2, 0, none⟩ (.slice (some ⟨p, 0, none⟩) n cap) = wf at *
  have y0 := cell_atF HB.out.1 0 (v := .slice (some ⟨p, 0, none⟩) n cap) rfl
  refine bodyPost_ret (v := .tuple #[.agg #[.slice (some ⟨p, 0, none⟩) n cap], .string ⟨#[]⟩, .bool false]) (by simp [results, Try.results18, go_sem, y0]) rfl ?_
  exact ⟨rfl, HB.out.2⟩
end Go.Proofs.Ytodjlaapmbnahaa
