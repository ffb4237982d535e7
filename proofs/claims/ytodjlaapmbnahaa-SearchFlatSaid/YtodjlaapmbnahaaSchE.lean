/-
  The uses of layer 40's law: near what may be.
-/
import Derived.Test.YtodjlaapmbnahaaSchD
import Derived.Test.YtodjlaapmbnahaaElts
namespace Go.Proofs.Ytodjlaapmbnahaa
open Go.RowKit Go.WideMaps
set_option linter.unusedVariables false
set_option linter.unusedSimpArgs false

abbrev shU : Sh := .two .bool (.two .str (.two (.int .i64) (.two (.int .i64) .unit)))
def RawU (u : US) : Prop := u.v.size ≤ maxLen ∧ (Lit.int .i64 u.f).wf = true ∧ (Lit.int .i64 u.t).wf = true
def NU (u : US) : Prop := 0 ≤ u.f ∧ u.f ≤ 15 ∧ u.f < u.t ∧ u.t ≤ 1073741824 ∧ u.v.size ≤ 1
theorem uses_of {w : World} {a : Option Addr} {len cap : Nat} (h : Fits w (.slice shU) [.slice a len cap]) : ∃ l : List US, l.length = len ∧ Elts w uC40 4 (.slice a len cap) l ∧ ∀ u ∈ l, RawU u := by
  refine fits_rows (s := shU) (c := uC40) (good := RawU) ?_ h
  rintro ys ⟨x1, y1, rfl, ⟨b, rfl⟩, x2, y2, rfl, ⟨s, rfl, hs⟩, x3, y3, rfl, ⟨f, rfl, hf⟩, x4, y4, rfl, ⟨t, rfl, ht⟩, h5⟩
  cases h5
  exact ⟨⟨b, s, f, t⟩, rfl, hs, hf, ht⟩
theorem uCs_one (l : List US) : ∀ y ∈ uCs l, y.oneCell' = true := by
  intro y hy
  simp only [uCs, List.mem_flatMap] at hy
  obtain ⟨u, _, hu⟩ := hy
  simp only [uC40, List.mem_cons, List.not_mem_nil, or_false] at hu
  rcases hu with rfl | rfl | rfl | rfl <;> rfl
theorem uCs_append (a b : List US) : uCs a ++ uCs b = uCs (a ++ b) := by simp [uCs]
theorem use_zero : ∃ i0 : TypeInfo, Try.prog.info? 72 = some i0 ∧ i0.zero = some (.agg #[.bool false, .string ⟨#[]⟩, .int .i64 0, .int .i64 0]) ∧ i0.size = 4 ∧ i0.bytes = 40 := by
  have h : (Try.prog.info? 72).map (fun i => (i.zero, i.size, i.bytes)) = some (some (.agg #[.bool false, .string ⟨#[]⟩, .int .i64 0, .int .i64 0]), 4, 40) := by kernel_rfl
  simp only [Option.map_eq_some_iff, Prod.mk.injEq] at h
  exact h
theorem conv1 {P : Program} {src dst e : TypeId} (hs : P.underlying src = some (.slice e)) (he : P.underlying e = some (.int .u8)) (hd : P.underlying dst = some .string) (w : World) (b0 : UInt8) (x0 : Int) (h0 : x0 = b0.toNat) :
    (convert src dst (.slice (some ⟨w.heap.size, 0, none⟩) 1 1)).run P (w.alloc (.cells #[.int .u8 x0] e)) = .ok (.string ⟨#[b0]⟩) (w.alloc (.cells #[.int .u8 x0] e)) := by
  subst h0
  refine run_convert_bytes_back _ src dst e ⟨w.heap.size, 0, none⟩ 1 [b0] hs he hd fun j hj => ?_
  have e1 : (⟨w.heap.size, 0, none⟩ : Addr).add j = ⟨w.heap.size, j, none⟩ := by unfold Addr.add; split <;> simp_all
  rw [e1, World.cell?_alloc_at _ _ _ _ rfl]
  have : j = 0 := by simp at hj; omega
  subst this
  rfl
theorem byte_isE (x : Int) (h : 0 ≤ x ∧ x ≤ 255) : ∃ b : UInt8, x = b.toNat := ⟨UInt8.ofNat x.toNat, by simp; omega⟩
/-- the use that is made ready, at block X; of what there was ahead of it nothing has turned -/
structure XAt (X : Nat) (w wx : World) (A : Array Value) : Prop where
  at_ : wx.heap[X]? = some (.cells A 72)
  below : Below X w wx
theorem xat_new {w : World} {A : Array Value} : XAt w.heap.size w (w.alloc (.cells A 72)).drew A := ⟨heap_alloc_self w _, below_drew' ((Below.refl _ _).alloc (Nat.le_refl _) _)⟩
theorem XAt.cell {X : Nat} {w wx : World} {A : Array Value} (h : XAt X w wx A) (j : Nat) {v : Value} (hv : A[j]? = some v) : wx.cell? ⟨X, j, none⟩ = some v := cellU h.at_ j hv
theorem XAt.froz {X : Nat} {w wx : World} {A : Array Value} (h : XAt X w wx A) (j : Nat) : wx.frozen? ⟨X, j, none⟩ = false := by simp [World.frozen?, h.at_]
theorem XAt.old {X : Nat} {w wx : World} {A : Array Value} (h : XAt X w wx A) {b o : Nat} (hb : b < X) {v : Value} (hc : w.cell? ⟨b, o, none⟩ = some v) : wx.cell? ⟨b, o, none⟩ = some v := (h.below.cell (p := ⟨b, o, none⟩) hb).trans hc
theorem XAt.set {X : Nat} {w wx : World} {A : Array Value} (h : XAt X w wx A) (j : Nat) (v : Value) : XAt X w (wx.setCell ⟨X, j, none⟩ v) (A.setIfInBounds j v) := ⟨heap_set_self h.at_ j v, h.below.setCell (Nat.le_refl _) _⟩
theorem XAt.drew {X : Nat} {w wx : World} {A : Array Value} (h : XAt X w wx A) : XAt X w wx.drew A := ⟨h.at_, below_drew' h.below⟩
theorem XAt.go {X : Nat} {w wx wy : World} {A : Array Value} (h : XAt X w wx A) (hb : Below wx.heap.size wx wy) : XAt X w wy A := ⟨below_at hb (lt_heap h.at_) h.at_, h.below.trans (hb.mono (Nat.le_of_lt (lt_heap h.at_)))⟩
/-- what is gathered -/
def Gu (w wr : World) (v5 : Value) (i : Nat) : Prop := ∃ out : List US, out.length = i ∧ wr.ownsRow w.heap.size 72 4 v5 i (uCs out) ∧ (∀ u ∈ out, NU u) ∧ Below w.heap.size w wr
end Go.Proofs.Ytodjlaapmbnahaa
