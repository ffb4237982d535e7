/-
  Several texts, laid together.
-/
import Derived.Test.YtadejhlljdcocaaMg1
import Derived.Deep.Slices
import Derived.OpenShut
import Derived.Test.YtadejhlljdcocaaMg5
import Derived.Test.YtadejhlljdcocaaMg8
/-
  What an argument of any make reads as, by its shape: integers, bools, texts, structs and arrays of these, and slices of whatever may be such. Of no program.
-/



namespace Go.Proofs.Ytadejhlljdcocaa
open Go.RowKit Go.Deep
set_option linter.unusedVariables false

/-- a shape: 'two a b' is a and b, one behind the other; a struct is its fields so, 'unit' at the end -/
inductive Sh where
  | int (k : IntKind) | bool | str | unit | two (a b : Sh) | slice (s : Sh)
def Sh.size : Sh → Nat | .int _ => 1 | .bool => 1 | .str => 1 | .unit => 0 | .two a b => a.size + b.size | .slice _ => 1
def Sh.rep (s : Sh) : Nat → Sh | 0 => .unit | n + 1 => .two s (s.rep n)
/-- cells that have a shape -/
def Fits (w : World) : Sh → List Value → Prop
  | .int k, cs => ∃ z, cs = [.int k z] ∧ (Lit.int k z).wf = true
  | .bool, cs => ∃ b, cs = [.bool b]
  | .str, cs => ∃ s : ByteArray, cs = [.string s] ∧ s.size ≤ maxLen
  | .unit, cs => cs = []
  | .two a b, cs => ∃ x y, cs = x ++ y ∧ Fits w a x ∧ Fits w b y
  | .slice s, cs => ∃ a len cap, cs = [.slice a len cap] ∧ len ≤ cap ∧ cap ≤ maxLen ∧ (len = 0 ∨ ∃ b off, a = some ⟨b, off, none⟩ ∧ b < w.heap.size ∧
      ∀ i, i < len → ∃ ys, ys.length = s.size ∧ (∀ (j : Nat) u, ys[j]? = some u → w.cell? ⟨b, off + i * s.size + j, none⟩ = some u) ∧ Fits w s ys)
theorem Fits.length {w : World} {s : Sh} {cs : List Value} (h : Fits w s cs) : cs.length = s.size := by
  induction s generalizing cs with
  | int k => obtain ⟨z, rfl, _⟩ := h; rfl
  | bool => obtain ⟨b, rfl⟩ := h; rfl
  | str => obtain ⟨s, rfl, _⟩ := h; rfl
  | unit => cases h; rfl
  | two a b iha ihb =>
    obtain ⟨x, y, rfl, hx, hy⟩ := h
    rw [List.length_append, iha hx, ihb hy]
    rfl
  | slice s _ => obtain ⟨a, len, cap, rfl, _⟩ := h; rfl

mutual
/-- a type has a shape -/
inductive IsSh (P : Program) : TypeId → Sh → Prop
  | int {t : TypeId} {k : IntKind} (h : P.underlying t = some (.int k)) : IsSh P t (.int k)
  | bool {t : TypeId} (h : P.underlying t = some .bool) : IsSh P t .bool
  | str {t : TypeId} (h : P.underlying t = some .string) : IsSh P t .str
  | slice {t e : TypeId} {s : Sh} (h : P.underlying t = some (.slice e)) (he : IsSh P e s) (hc : P.cellsOf e = s.size) (hp : 0 < s.size) : IsSh P t (.slice s)
  | struct {t : TypeId} {fs : Array Field} {s : Sh} (h : P.underlying t = some (.struct fs)) (hf : AreSh P fs.toList 0 s) (hc : P.cellsOf t = s.size) : IsSh P t s
  | array {t e : TypeId} {n : Nat} {s : Sh} (h : P.underlying t = some (.array n e)) (he : IsSh P e s) (hc : P.cellsOf e = s.size) (hn : P.cellsOf t = (s.rep n).size) : IsSh P t (s.rep n)
/-- the fields from a place on -/
inductive AreSh (P : Program) : List Field → Nat → Sh → Prop
  | nil {off : Nat} : AreSh P [] off .unit
  | cons {f : Field} {fs : List Field} {off : Nat} {a b : Sh} (ho : f.offset = off) (h : IsSh P f.type a) (hc : P.cellsOf f.type = a.size) (hr : AreSh P fs (off + a.size) b) : AreSh P (f :: fs) off (.two a b)
end

theorem rep_size (s : Sh) (n : Nat) : (s.rep n).size = n * s.size := by
  induction n with
  | zero => simp [Sh.rep, Sh.size]
  | succ n ih => simp only [Sh.rep, Sh.size, ih, Nat.succ_mul]; omega
theorem fits_rep {w : World} {s : Sh} : ∀ (n : Nat) (cs : List Value), cs.length = n * s.size → (∀ i, i < n → Fits w s ((cs.drop (i * s.size)).take s.size)) → Fits w (s.rep n) cs
  | 0, cs, hl, _ => List.eq_nil_of_length_eq_zero (by simpa using hl)
  | n + 1, cs, hl, h => by
    refine ⟨cs.take s.size, cs.drop s.size, (List.take_append_drop _ _).symm, by simpa using h 0 (by omega), fits_rep n _ ?_ fun i hi => ?_⟩
    · rw [List.length_drop, hl, Nat.succ_mul]; omega
    · have := h (i + 1) (by omega)
      rwa [Nat.succ_mul, Nat.add_comm, ← List.drop_drop] at this
section
variable {H : Type} {enc : TypeId × Value → H} {P : Program} {w : World} {base : Nat} {spare : Nat → Bool} {held : Bool}
theorem fits_of {t : TypeId} {s : Sh} (hs : IsSh P t s) : ∀ {fuel : Nat} {cs : List Value} {x : DataW H × List MemPlace}, DataW.trod enc P w base spare held fuel t cs = some x → Fits w s cs := by
  refine IsSh.rec (motive_1 := fun t s _ => ∀ {fuel : Nat} {cs : List Value} {x : DataW H × List MemPlace}, DataW.trod enc P w base spare held fuel t cs = some x → Fits w s cs)
    (motive_2 := fun fs off s _ => ∀ (cs : List Value) (n : Nat), cs.length = off + s.size → (∀ f ∈ fs, ∃ y, DataW.trod enc P w base spare held n f.type ((cs.drop f.offset).take (P.cellsOf f.type)) = some y) → Fits w s (cs.drop off)) ?_ ?_ ?_ ?_ ?_ ?_ ?_ ?_ hs
  · intro t k h fuel cs x hx
    obtain ⟨z, hz, _, hw⟩ := DataW.trod_int h hx
    exact ⟨z, hz, hw⟩
  · intro t h fuel cs x hx
    obtain ⟨b, hb, _⟩ := DataW.trod_bool h hx
    exact ⟨b, hb⟩
  · intro t h fuel cs x hx
    obtain ⟨s, h1, _, h2⟩ := DataW.trod_string h hx
    exact ⟨s, h1, h2⟩
  · intro t e s h he hc hp ih fuel cs x hx
    rcases open_slice h hx with ⟨rfl, _⟩ | ⟨a, len, cap, m, n, D, Pl, rfl, hb, hl, hm, hmm, _, hi⟩
    · exact ⟨none, 0, 0, rfl, Nat.le_refl _, Nat.zero_le _, .inl rfl⟩
    · refine ⟨some a, len, cap, rfl, hl, hm, ?_⟩
      rcases Nat.eq_zero_or_pos len with h0 | h0
      · exact .inl h0
      right
      have hle : len ≤ m := by rw [hmm]; split <;> omega
      rw [hc] at hi
      have hcell : ∀ i, i < len → ∃ ys, ys.length = s.size ∧ (∀ (j : Nat) u, ys[j]? = some u → w.cell? ((a.add (i * s.size)).add j) = some u) ∧ Fits w s ys := by
        intro i hil
        obtain ⟨ys, h1, h2⟩ := hi i (by omega)
        obtain ⟨_, h3, h4⟩ := World.cells?_some h1
        refine ⟨ys, h3, fun j u hj => ?_, ih h2⟩
        have hjl := (List.getElem?_eq_some_iff.1 hj).1
        rw [h4 j (by omega), hj]
      obtain ⟨b, off, spot⟩ := a
      obtain ⟨ys0, l0, c0, _⟩ := hcell 0 h0
      obtain ⟨u0, hu0⟩ : ∃ u, ys0[0]? = some u := ⟨_, List.getElem?_eq_getElem (by omega)⟩
      have q := c0 0 u0 hu0
      have hs : spot = none := by
        have := World.cell?_spot q
        simpa [Addr.add] using this
      subst hs
      have hbl : b < w.heap.size := by
        have := World.block_lt_of_cell? w _ q
        simpa [Addr.add] using this
      refine ⟨b, off, rfl, hbl, fun i hil => ?_⟩
      obtain ⟨ys, h1, h2, h3⟩ := hcell i hil
      refine ⟨ys, h1, fun j u hj => ?_, h3⟩
      have := h2 j u hj
      rwa [add_off, add_off] at this
  · intro t fs s h hf hc ih fuel cs x hx
    obtain ⟨xs, n, _, _, hl, hxl, hg⟩ := DataW.trod_struct h hx
    have := ih cs n (by rw [hl, hc, Nat.zero_add]) (fun f hf => by
      obtain ⟨i, hi, rfl⟩ := List.mem_iff_getElem.1 hf
      have := hg i fs[i] (by simp at hi; simp [hi])
      rw [List.getElem?_eq_getElem (by simp at hi; omega)] at this
      exact ⟨_, by simpa using this⟩)
    simpa using this
  · intro t e n s h he hc hn ih fuel cs x hx
    obtain ⟨xs, m, _, _, hl, hxl, hg⟩ := DataW.trod_array h hx
    refine fits_rep n cs (by rw [hl, hn, rep_size]) fun i hi => ?_
    have h1 := hg i hi
    rw [hc, List.getElem?_eq_getElem (by omega)] at h1
    exact ih h1
  · intro off cs n hl _
    exact List.drop_eq_nil_of_le (by simp [Sh.size] at hl; omega)
  · intro f fs off a b ho h hc hr iha ihb cs n hl hall
    obtain ⟨y, hy⟩ := hall f (by simp)
    rw [ho, hc] at hy
    have h2 := ihb cs n (by rw [hl]; simp only [Sh.size]; omega) (fun g hg => hall g (by simp [hg]))
    refine ⟨(cs.drop off).take a.size, cs.drop (off + a.size), ?_, iha hy, h2⟩
    rw [← List.drop_drop, List.take_append_drop]
theorem fits_arg {t : TypeId} {s : Sh} {v : Value} {d : DataW H} {p : List MemPlace} (hs : IsSh P t s) (h : DataW.Trod enc P w base spare held t v d p) : Fits w s v.cells.toList := by
  obtain ⟨fuel, hf⟩ := h
  exact fits_of hs hf
end
theorem fits_agg {P : Program} {w : World} {r : Reach} {b0 : Nat} {t : TypeId} {fs : Array Field} {v : Value} {s : Sh} (ht : P.underlying t = some (.struct fs)) (hv : Value.okWide P w r b0 t v) (h : Fits w s v.cells.toList) : ∃ cs, v = .agg cs ∧ Fits w s cs.toList := by
  obtain ⟨cs, rfl, _⟩ := Go.WideShapes.okWide_struct ht hv
  exact ⟨cs, rfl, h⟩
theorem fits_agga {P : Program} {w : World} {r : Reach} {b0 : Nat} {t e : TypeId} {n : Nat} {v : Value} {s : Sh} (ht : P.underlying t = some (.array n e)) (hv : Value.okWide P w r b0 t v) (h : Fits w s v.cells.toList) : ∃ cs, v = .agg cs ∧ Fits w s cs.toList := by
  simp only [Value.okWide, ht] at hv
  obtain ⟨cs, rfl, _⟩ := hv
  exact ⟨cs, rfl, h⟩
theorem fits_slice {P : Program} {w : World} {r : Reach} {b0 : Nat} {t e : TypeId} {v : Value} {s : Sh} (ht : P.underlying t = some (.slice e)) (hv : Value.okWide P w r b0 t v) (h : Fits w s v.cells.toList) : ∃ a len cap, v = .slice a len cap ∧ Fits w s [.slice a len cap] := by
  obtain ⟨a, len, cap, rfl⟩ := Go.WideShapes.okWide_slice ht hv
  exact ⟨a, len, cap, rfl, h⟩
/-- what a slice that came in is: its length, its room, and its elements -/
theorem Fits.slice {w : World} {a : Option Addr} {len cap : Nat} {s : Sh} (h : Fits w (.slice s) [.slice a len cap]) : len ≤ cap ∧ cap ≤ maxLen ∧ (len = 0 ∨ ∃ b off, a = some ⟨b, off, none⟩ ∧ b < w.heap.size ∧
      ∀ i, i < len → ∃ ys, ys.length = s.size ∧ (∀ (j : Nat) u, ys[j]? = some u → w.cell? ⟨b, off + i * s.size + j, none⟩ = some u) ∧ Fits w s ys) := by
  obtain ⟨a', len', cap', he, h1, h2, h3⟩ := h
  simp only [List.cons.injEq, and_true] at he
  injection he with e1 e2 e3
  subst e1 e2 e3
  exact ⟨h1, h2, h3⟩
end Go.Proofs.Ytadejhlljdcocaa
/-
  Items there and back: what may be, and what is put (layer 8).
-/



namespace Go.Proofs.Ytadejhlljdcocaa
open Go.RowKit
set_option linter.unusedVariables false
set_option linter.unusedSimpArgs false

theorem refzeros (w : World) : Calls Try.prog 188 #[] w fun e w' => e = .returned (.string (zeroL 32)) ∧ Below w.heap.size w w' := by
  go_enter Try.func188, Try.ntmps188
  go_wp2_with fail
  go_ret
  exact ⟨rfl, Below.refl _ _⟩
theorem rmay_none (v : Int) (w : World) : Calls Try.prog 154 #[.agg (itemA v ⟨#[]⟩)] w fun e w' => e = .returned (.bool true) ∧ Below w.heap.size w w' := by
  unfold itemA
  go_enter Try.func154, Try.ntmps154
  go_upto_region 1 with fail
  go_quiet (fail)
  go_wp2_with fail
  go_ret
  exact ⟨rfl, below_drewN' (by go_grown) _⟩
theorem imay_bad (v : Int) (D : ByteArray) (w : World) (hn : D ≠ ⟨#[]⟩) (hs : D.size ≠ 32) : Calls Try.prog 93 #[.agg (itemA v D)] w fun e w' => e = .returned (.bool false) ∧ Below w.heap.size w w' := by
  unfold itemA
  have h1 := ba_empty hn
  have h1' : (D.toList == []) = false := by rw [beq_eq_false_iff_ne]; exact h1
  have h1e : (D.toList == (⟨#[]⟩ : ByteArray).toList) = false := ba_ne hn
  have h5 : ((D.size : Int) == 32) = false := by simpa using fun h : (D.size : Int) = 32 => hs (by omega)
  have h6 : ¬ (D.size : Int) = 32 := by omega
  go_enter Try.func93, Try.ntmps93
  go_upto_region 1 with fail
  go_quiet (fail)
  go_wp2_with fail
  go_ret
  exact ⟨rfl, below_drewN' (by go_grown) _⟩
theorem rmay_bad (v : Int) (D : ByteArray) (w : World) (hn : D ≠ ⟨#[]⟩) (hs : D.size ≠ 32) : Calls Try.prog 154 #[.agg (itemA v D)] w fun e w' => e = .returned (.bool false) ∧ Below w.heap.size w w' := by
  unfold itemA
  have h1 := ba_empty hn
  have h1' : (D.toList == []) = false := by rw [beq_eq_false_iff_ne]; exact h1
  have h1e : (D.toList == (⟨#[]⟩ : ByteArray).toList) = false := ba_ne hn
  have h5 : ((D.size : Int) == 32) = false := by simpa using fun h : (D.size : Int) = 32 => hs (by omega)
  have h6 : ¬ (D.size : Int) = 32 := by omega
  go_enter Try.func154, Try.ntmps154
  go_upto_region 1 with fail
  go_quiet (fail)
  go_wp2_with fail
  go_ret
  exact ⟨rfl, below_drewN' (by go_grown) _⟩
set_option maxRecDepth 100000 in
theorem imay_zero (v : Int) (D : ByteArray) (w : World) (hs : D.size = 32) (hD : D = zeroL 32) : Calls Try.prog 93 #[.agg (itemA v D)] w fun e w' => e = .returned (.bool false) ∧ Below w.heap.size w w' := by
  unfold itemA
  have hn : D ≠ ⟨#[]⟩ := fun h => by rw [h] at hs; cases hs
  have h1 := ba_empty hn
  have h1' : (D.toList == []) = false := by rw [beq_eq_false_iff_ne]; exact h1
  have h1e : (D.toList == (⟨#[]⟩ : ByteArray).toList) = false := ba_ne hn
  have h2 : (D.toList == (zeroL 32).toList) = true := by rw [hD]; simp
  have cz := fun w => inoughts w
  rw [← hD] at h2 cz
  clear hD
  obtain ⟨Z, hZ⟩ : ∃ Z, D = Z := ⟨_, rfl⟩
  subst hZ
  have h4 : (D.size : Int) = 32 := by omega
  have h5 : ((D.size : Int) == 32) = true := by simp [hs]
  have hb0 : Below w.heap.size w (w.alloc (.cells #[.int .u64 v, .string D] 71)) := (Below.refl _ _).alloc (Nat.le_refl _) _
  have hx := heap_alloc_self w (.cells #[.int .u64 v, .string D] 71)
  have hz : (w.alloc (.cells #[.int .u64 v, .string D] 71)).heap.size = w.heap.size + 1 := by simp
  go_enter Try.func93, Try.ntmps93
  go_upto_region 1 with fail
  generalize w.alloc (.cells #[.int .u64 v, .string D] 71) = w1 at *
  have k1 : w1.cell? ⟨w.heap.size, 1, none⟩ = some (.string D) := by simp [World.cell?, hx]
  obtain ⟨N, hN⟩ : ∃ N, w1.heap.size = N := ⟨_, rfl⟩
  have HN := Lib.hid hN
  have HB := Lib.hid hb0
  have hlt : w.heap.size < N := by omega
  have cs : ∀ w', N ≤ w'.heap.size → Calls Try.prog 142 #[] w' fun x w'' => x = .returned (.string D) ∧ Stays N w' w'' := fun w' h => (cz w').mono fun e w'' ⟨he, hw⟩ => ⟨he, stays_of h hw⟩
  clear hx hz hN hb0 cz
  go_region_held3 (fun w' => N ≤ w'.heap.size ∧ Below N w1 w' ∧ ∀ b o, b < N → w'.cell? ⟨b, o, none⟩ = w1.cell? ⟨b, o, none⟩) (first | assumption | exact keeps_start HN.out | exact keeps_next (by assumption) (by assumption)) (first | (go_at_call 142; refine Calls.mono (cs _ (And.left (by assumption))) ?_; rintro e wz ⟨rfl, hz⟩))
  rename_i hfin
  have FIN := Lib.hid hfin.2.1
  clear hfin
  go_wp2_with fail
  go_ret
  exact ⟨rfl, HB.out.trans (FIN.out.mono (Nat.le_of_lt hlt))⟩
set_option maxRecDepth 100000 in
theorem rmay_some (v : Int) (D : ByteArray) (w : World) (hs : D.size = 32) (hD : D ≠ zeroL 32) : Calls Try.prog 154 #[.agg (itemA v D)] w fun e w' => e = .returned (.bool true) ∧ Below w.heap.size w w' := by
  unfold itemA
  have hn : D ≠ ⟨#[]⟩ := fun h => by rw [h] at hs; cases hs
  have h1 := ba_empty hn
  have h1' : (D.toList == []) = false := by rw [beq_eq_false_iff_ne]; exact h1
  have h1e : (D.toList == (⟨#[]⟩ : ByteArray).toList) = false := ba_ne hn
  have h2 := ba_ne hD
  obtain ⟨Z, hZ⟩ : ∃ Z, zeroL 32 = Z := ⟨_, rfl⟩
  have cz := fun w => refzeros w
  rw [hZ] at h2 cz hD
  have h6 : ¬ D.toList = Z.toList := fun e => by rw [e] at h2; simp at h2
  have h4 : (D.size : Int) = 32 := by omega
  have h5 : ((D.size : Int) == 32) = true := by simp [hs]
  have hb0 : Below w.heap.size w (w.alloc (.cells #[.int .u64 v, .string D] 71)) := (Below.refl _ _).alloc (Nat.le_refl _) _
  have hx := heap_alloc_self w (.cells #[.int .u64 v, .string D] 71)
  have hz : (w.alloc (.cells #[.int .u64 v, .string D] 71)).heap.size = w.heap.size + 1 := by simp
  go_enter Try.func154, Try.ntmps154
  go_upto_region 1 with fail
  generalize w.alloc (.cells #[.int .u64 v, .string D] 71) = w1 at *
  have k1 : w1.cell? ⟨w.heap.size, 1, none⟩ = some (.string D) := by simp [World.cell?, hx]
  obtain ⟨N, hN⟩ : ∃ N, w1.heap.size = N := ⟨_, rfl⟩
  have HN := Lib.hid hN
  have HB := Lib.hid hb0
  have hlt : w.heap.size < N := by omega
  have cs : ∀ w', N ≤ w'.heap.size → Calls Try.prog 188 #[] w' fun x w'' => x = .returned (.string Z) ∧ Stays N w' w'' := fun w' h => (cz w').mono fun e w'' ⟨he, hw⟩ => ⟨he, stays_of h hw⟩
  clear hx hz hN hb0 cz hZ
  go_region_held3 (fun w' => N ≤ w'.heap.size ∧ Below N w1 w' ∧ ∀ b o, b < N → w'.cell? ⟨b, o, none⟩ = w1.cell? ⟨b, o, none⟩) (first | assumption | exact keeps_start HN.out | exact keeps_next (by assumption) (by assumption)) (first | (go_at_call 188; refine Calls.mono (cs _ (And.left (by assumption))) ?_; rintro e wz ⟨rfl, hz⟩))
  rename_i hfin
  have FIN := Lib.hid hfin.2.1
  clear hfin
  go_wp2_with fail
  go_ret
  exact ⟨rfl, HB.out.trans (FIN.out.mono (Nat.le_of_lt hlt))⟩
set_option maxRecDepth 100000 in
theorem rmay_zero (v : Int) (D : ByteArray) (w : World) (hs : D.size = 32) (hD : D = zeroL 32) : Calls Try.prog 154 #[.agg (itemA v D)] w fun e w' => e = .returned (.bool false) ∧ Below w.heap.size w w' := by
  unfold itemA
  have hn : D ≠ ⟨#[]⟩ := fun h => by rw [h] at hs; cases hs
  have h1 := ba_empty hn
  have h1' : (D.toList == []) = false := by rw [beq_eq_false_iff_ne]; exact h1
  have h1e : (D.toList == (⟨#[]⟩ : ByteArray).toList) = false := ba_ne hn
  have h2 : (D.toList == (zeroL 32).toList) = true := by rw [hD]; simp
  have cz := fun w => refzeros w
  rw [← hD] at h2 cz
  clear hD
  obtain ⟨Z, hZ⟩ : ∃ Z, D = Z := ⟨_, rfl⟩
  subst hZ
  have h4 : (D.size : Int) = 32 := by omega
  have h5 : ((D.size : Int) == 32) = true := by simp [hs]
  have hb0 : Below w.heap.size w (w.alloc (.cells #[.int .u64 v, .string D] 71)) := (Below.refl _ _).alloc (Nat.le_refl _) _
  have hx := heap_alloc_self w (.cells #[.int .u64 v, .string D] 71)
  have hz : (w.alloc (.cells #[.int .u64 v, .string D] 71)).heap.size = w.heap.size + 1 := by simp
  go_enter Try.func154, Try.ntmps154
  go_upto_region 1 with fail
  generalize w.alloc (.cells #[.int .u64 v, .string D] 71) = w1 at *
  have k1 : w1.cell? ⟨w.heap.size, 1, none⟩ = some (.string D) := by simp [World.cell?, hx]
  obtain ⟨N, hN⟩ : ∃ N, w1.heap.size = N := ⟨_, rfl⟩
  have HN := Lib.hid hN
  have HB := Lib.hid hb0
  have hlt : w.heap.size < N := by omega
  have cs : ∀ w', N ≤ w'.heap.size → Calls Try.prog 188 #[] w' fun x w'' => x = .returned (.string D) ∧ Stays N w' w'' := fun w' h => (cz w').mono fun e w'' ⟨he, hw⟩ => ⟨he, stays_of h hw⟩
  clear hx hz hN hb0 cz
  go_region_held3 (fun w' => N ≤ w'.heap.size ∧ Below N w1 w' ∧ ∀ b o, b < N → w'.cell? ⟨b, o, none⟩ = w1.cell? ⟨b, o, none⟩) (first | assumption | exact keeps_start HN.out | exact keeps_next (by assumption) (by assumption)) (first | (go_at_call 188; refine Calls.mono (cs _ (And.left (by assumption))) ?_; rintro e wz ⟨rfl, hz⟩))
  rename_i hfin
  have FIN := Lib.hid hfin.2.1
  clear hfin
  go_wp2_with fail
  go_ret
  exact ⟨rfl, HB.out.trans (FIN.out.mono (Nat.le_of_lt hlt))⟩
end Go.Proofs.Ytadejhlljdcocaa
/-
  Items there and back: what is put (layer 8).
-/

namespace Go.Proofs.Ytadejhlljdcocaa
open Go.RowKit
set_option linter.unusedVariables false
set_option linter.unusedSimpArgs false

def MayT (b : Bool) (v : Int) (D : ByteArray) : Prop := (∀ w, Calls Try.prog 93 #[.agg (itemA v D)] w fun e w' => e = .returned (.bool b) ∧ Below w.heap.size w w') ∧ ∀ w, Calls Try.prog 154 #[.agg (itemA v D)] w fun e w' => e = .returned (.bool b) ∧ Below w.heap.size w w'
theorem may_cases (v : Int) (D : ByteArray) : ∃ b, MayT b v D ∧ (b = false → D ≠ ⟨#[]⟩) ∧ (b = true → D.size ≤ 32) := by
  by_cases h : D = ⟨#[]⟩
  · subst h
    exact ⟨true, ⟨imay_none v, rmay_none v⟩, by simp, fun _ => by decide⟩
  · by_cases h2 : D.size = 32
    · by_cases h3 : D = zeroL 32
      · exact ⟨false, ⟨fun w => imay_zero v D w h2 h3, fun w => rmay_zero v D w h2 h3⟩, fun _ => h, by simp⟩
      · exact ⟨true, ⟨fun w => imay_some v D w h2 h3, fun w => rmay_some v D w h2 h3⟩, by simp, fun _ => by omega⟩
    · exact ⟨false, ⟨fun w => imay_bad v D w h h2, fun w => rmay_bad v D w h h2⟩, fun _ => h, by simp⟩
def putI (v : Int) (l : List UInt8) : List UInt8 := putN v.toNat ++ (putN l.length ++ l)
end Go.Proofs.Ytadejhlljdcocaa
