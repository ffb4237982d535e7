/-
  What an argument of any make reads as, by its shape: integers, bools, texts, structs and arrays of these, and slices of whatever may be such. Of no program.
-/
import Derived.Test.YtgnnijpfkgmomaaGreatDoorMh3
import Derived.Deep.Slices
import Derived.OpenShut
namespace Go.Proofs.YtgnnijpfkgmomaaGreatDoor
open Go.RowKit Go.Deep
set_option linter.unusedVariables false

/-- a shape: 'two a b' is a and b, one behind the other; a struct is its fields so, 'unit' at the end -/
inductive Sh where
  | int (k : IntKind) | bool | str | unit | two (a b : Sh) | slice (s : Sh)
def Sh.size : Sh → Nat | .int _ => 1 | .bool => 1 | .str => 1 | .unit => 0 | .two a b => a.size + b.size | .slice _ => 1
def Sh.rep (s : Sh) : Nat → Sh | 0 => .unit | n + 1 => .two s (s.rep n)
/-- cells that have a shape -/
def Fits (w : World) : Sh → List Value → Prop
  | .int k, cs => ∃ z, cs = [.int k z] ∧ (Lit.int k z).wf = true
  | .bool, cs => ∃ b, cs = [.bool b]
  | .str, cs => ∃ s : ByteArray, cs = [.string s] ∧ s.size ≤ maxLen
  | .unit, cs => cs = []
  | .two a b, cs => ∃ x y, cs = x ++ y ∧ Fits w a x ∧ Fits w b y
  | .slice s, cs => ∃ a len cap, cs = [.slice a len cap] ∧ len ≤ cap ∧ cap ≤ maxLen ∧ (len = 0 ∨ ∃ b off, a = some ⟨b, off, none⟩ ∧ b < w.heap.size ∧
      ∀ i, i < len → ∃ ys, ys.length = s.size ∧ (∀ (j : Nat) u, ys[j]? = some u → w.cell? ⟨b, off + i * s.size + j, none⟩ = some u) ∧ Fits w s ys)
theorem Fits.length {w : World} {s : Sh} {cs : List Value} (h : Fits w s cs) : cs.length = s.size := by
  induction s generalizing cs with
  | int k => obtain ⟨z, rfl, _⟩ := h; rfl
  | bool => obtain ⟨b, rfl⟩ := h; rfl
  | str => obtain ⟨s, rfl, _⟩ := h; rfl
  | unit => cases h; rfl
  | two a b iha ihb =>
    obtain ⟨x, y, rfl, hx, hy⟩ := h
    rw [List.length_append, iha hx, ihb hy]
    rfl
  | slice s _ => obtain ⟨a, len, cap, rfl, _⟩ := h; rfl

mutual
/-- a type has a shape -/
inductive IsSh (P : Program) : TypeId → Sh → Prop
  | int {t : TypeId} {k : IntKind} (h : P.underlying t = some (.int k)) : IsSh P t (.int k)
  | bool {t : TypeId} (h : P.underlying t = some .bool) : IsSh P t .bool
  | str {t : TypeId} (h : P.underlying t = some .string) : IsSh P t .str
  | slice {t e : TypeId} {s : Sh} (h : P.underlying t = some (.slice e)) (he : IsSh P e s) (hc : P.cellsOf e = s.size) (hp : 0 < s.size) : IsSh P t (.slice s)
  | struct {t : TypeId} {fs : Array Field} {s : Sh} (h : P.underlying t = some (.struct fs)) (hf : AreSh P fs.toList 0 s) (hc : P.cellsOf t = s.size) : IsSh P t s
  | array {t e : TypeId} {n : Nat} {s : Sh} (h : P.underlying t = some (.array n e)) (he : IsSh P e s) (hc : P.cellsOf e = s.size) (hn : P.cellsOf t = (s.rep n).size) : IsSh P t (s.rep n)
/-- the fields from a place on -/
inductive AreSh (P : Program) : List Field → Nat → Sh → Prop
  | nil {off : Nat} : AreSh P [] off .unit
  | cons {f : Field} {fs : List Field} {off : Nat} {a b : Sh} (ho : f.offset = off) (h : IsSh P f.type a) (hc : P.cellsOf f.type = a.size) (hr : AreSh P fs (off + a.size) b) : AreSh P (f :: fs) off (.two a b)
end

theorem rep_size (s : Sh) (n : Nat) : (s.rep n).size = n * s.size := by
  induction n with
  | zero => simp [Sh.rep, Sh.size]
  | succ n ih => simp only [Sh.rep, Sh.size, ih, Nat.succ_mul]; omega
theorem fits_rep {w : World} {s : Sh} : ∀ (n : Nat) (cs : List Value), cs.length = n * s.size → (∀ i, i < n → Fits w s ((cs.drop (i * s.size)).take s.size)) → Fits w (s.rep n) cs
  | 0, cs, hl, _ => List.eq_nil_of_length_eq_zero (by simpa using hl)
  | n + 1, cs, hl, h => by
    refine ⟨cs.take s.size, cs.drop s.size, (List.take_append_drop _ _).symm, by simpa using h 0 (by omega), fits_rep n _ ?_ fun i hi => ?_⟩
    · rw [List.length_drop, hl, Nat.succ_mul]; omega
    · have := h (i + 1) (by omega)
      rwa [Nat.succ_mul, Nat.add_comm, ← List.drop_drop] at this
section
variable {H : Type} {enc : TypeId × Value → H} {P : Program} {w : World} {base : Nat} {spare : Nat → Bool} {held : Bool}
theorem fits_of {t : TypeId} {s : Sh} (hs : IsSh P t s) : ∀ {fuel : Nat} {cs : List Value} {x : DataW H × List MemPlace}, DataW.trod enc P w base spare held fuel t cs = some x → Fits w s cs := by
  refine IsSh.rec (motive_1 := fun t s _ => ∀ {fuel : Nat} {cs : List Value} {x : DataW H × List MemPlace}, DataW.trod enc P w base spare held fuel t cs = some x → Fits w s cs)
    (motive_2 := fun fs off s _ => ∀ (cs : List Value) (n : Nat), cs.length = off + s.size → (∀ f ∈ fs, ∃ y, DataW.trod enc P w base spare held n f.type ((cs.drop f.offset).take (P.cellsOf f.type)) = some y) → Fits w s (cs.drop off)) ?_ ?_ ?_ ?_ ?_ ?_ ?_ ?_ hs
  · intro t k h fuel cs x hx
    obtain ⟨z, hz, _, hw⟩ := DataW.trod_int h hx
    exact ⟨z, hz, hw⟩
  · intro t h fuel cs x hx
    obtain ⟨b, hb, _⟩ := DataW.trod_bool h hx
    exact ⟨b, hb⟩
  · intro t h fuel cs x hx
    obtain ⟨s, h1, _, h2⟩ := DataW.trod_string h hx
    exact ⟨s, h1, h2⟩
  · intro t e s h he hc hp ih fuel cs x hx
    rcases open_slice h hx with ⟨rfl, _⟩ | ⟨a, len, cap, m, n, D, Pl, rfl, hb, hl, hm, hmm, _, hi⟩
    · exact ⟨none, 0, 0, rfl, Nat.le_refl _, Nat.zero_le _, .inl rfl⟩
    · refine ⟨some a, len, cap, rfl, hl, hm, ?_⟩
      rcases Nat.eq_zero_or_pos len with h0 | h0
      · exact .inl h0
      right
      have hle : len ≤ m := by rw [hmm]; split <;> omega
      rw [hc] at hi
      have hcell : ∀ i, i < len → ∃ ys, ys.length = s.size ∧ (∀ (j : Nat) u, ys[j]? = some u → w.cell? ((a.add (i * s.size)).add j) = some u) ∧ Fits w s ys := by
        intro i hil
        obtain ⟨ys, h1, h2⟩ := hi i (by omega)
        obtain ⟨_, h3, h4⟩ := World.cells?_some h1
        refine ⟨ys, h3, fun j u hj => ?_, ih h2⟩
        have hjl := (List.getElem?_eq_some_iff.1 hj).1
        rw [h4 j (by omega), hj]
      obtain ⟨b, off, spot⟩ := a
      obtain ⟨ys0, l0, c0, _⟩ := hcell 0 h0
      obtain ⟨u0, hu0⟩ : ∃ u, ys0[0]? = some u := ⟨_, List.getElem?_eq_getElem (by omega)⟩
      have q := c0 0 u0 hu0
      have hs : spot = none := by
        have := World.cell?_spot q
        simpa [Addr.add] using this
      subst hs
      have hbl : b < w.heap.size := by
        have := World.block_lt_of_cell? w _ q
        simpa [Addr.add] using this
      refine ⟨b, off, rfl, hbl, fun i hil => ?_⟩
      obtain ⟨ys, h1, h2, h3⟩ := hcell i hil
      refine ⟨ys, h1, fun j u hj => ?_, h3⟩
      have := h2 j u hj
      rwa [add_off, add_off] at this
  · intro t fs s h hf hc ih fuel cs x hx
    obtain ⟨xs, n, _, _, hl, hxl, hg⟩ := DataW.trod_struct h hx
    have := ih cs n (by rw [hl, hc, Nat.zero_add]) (fun f hf => by
      obtain ⟨i, hi, rfl⟩ := List.mem_iff_getElem.1 hf
      have := hg i fs[i] (by simp at hi; simp [hi])
      rw [List.getElem?_eq_getElem (by simp at hi; omega)] at this
      exact ⟨_, by simpa using this⟩)
    simpa using this
  · intro t e n s h he hc hn ih fuel cs x hx
    obtain ⟨xs, m, _, _, hl, hxl, hg⟩ := DataW.trod_array h hx
    refine fits_rep n cs (by rw [hl, hn, rep_size]) fun i hi => ?_
    have h1 := hg i hi
    rw [hc, List.getElem?_eq_getElem (by omega)] at h1
    exact ih h1
  · intro off cs n hl _
    exact List.drop_eq_nil_of_le (by simp [Sh.size] at hl; omega)
  · intro f fs off a b ho h hc hr iha ihb cs n hl hall
    obtain ⟨y, hy⟩ := hall f (by simp)
    rw [ho, hc] at hy
    have h2 := ihb cs n (by rw [hl]; simp only [Sh.size]; omega) (fun g hg => hall g (by simp [hg]))
    refine ⟨(cs.drop off).take a.size, cs.drop (off + a.size), ?_, iha hy, h2⟩
    rw [← List.drop_drop, List.take_append_drop]
theorem fits_arg {t : TypeId} {s : Sh} {v : Value} {d : DataW H} {p : List MemPlace} (hs : IsSh P t s) (h : DataW.Trod enc P w base spare held t v d p) : Fits w s v.cells.toList := by
  obtain ⟨fuel, hf⟩ := h
  exact fits_of hs hf
end
theorem fits_agg {P : Program} {w : World} {r : Reach} {b0 : Nat} {t : TypeId} {fs : Array Field} {v : Value} {s : Sh} (ht : P.underlying t = some (.struct fs)) (hv : Value.okWide P w r b0 t v) (h : Fits w s v.cells.toList) : ∃ cs, v = .agg cs ∧ Fits w s cs.toList := by
  obtain ⟨cs, rfl, _⟩ := Go.WideShapes.okWide_struct ht hv
  exact ⟨cs, rfl, h⟩
theorem fits_agga {P : Program} {w : World} {r : Reach} {b0 : Nat} {t e : TypeId} {n : Nat} {v : Value} {s : Sh} (ht : P.underlying t = some (.array n e)) (hv : Value.okWide P w r b0 t v) (h : Fits w s v.cells.toList) : ∃ cs, v = .agg cs ∧ Fits w s cs.toList := by
  simp only [Value.okWide, ht] at hv
  obtain ⟨cs, rfl, _⟩ := hv
  exact ⟨cs, rfl, h⟩
theorem fits_slice {P : Program} {w : World} {r : Reach} {b0 : Nat} {t e : TypeId} {v : Value} {s : Sh} (ht : P.underlying t = some (.slice e)) (hv : Value.okWide P w r b0 t v) (h : Fits w s v.cells.toList) : ∃ a len cap, v = .slice a len cap ∧ Fits w s [.slice a len cap] := by
  obtain ⟨a, len, cap, rfl⟩ := Go.WideShapes.okWide_slice ht hv
  exact ⟨a, len, cap, rfl, h⟩
/-- what a slice that came in is: its length, its room, and its elements -/
theorem Fits.slice {w : World} {a : Option Addr} {len cap : Nat} {s : Sh} (h : Fits w (.slice s) [.slice a len cap]) : len ≤ cap ∧ cap ≤ maxLen ∧ (len = 0 ∨ ∃ b off, a = some ⟨b, off, none⟩ ∧ b < w.heap.size ∧
      ∀ i, i < len → ∃ ys, ys.length = s.size ∧ (∀ (j : Nat) u, ys[j]? = some u → w.cell? ⟨b, off + i * s.size + j, none⟩ = some u) ∧ Fits w s ys) := by
  obtain ⟨a', len', cap', he, h1, h2, h3⟩ := h
  simp only [List.cons.injEq, and_true] at he
  injection he with e1 e2 e3
  subst e1 e2 e3
  exact ⟨h1, h2, h3⟩
end Go.Proofs.YtgnnijpfkgmomaaGreatDoor
