/-
  Several texts, laid together.
-/
import Derived.Test.YtadejhlljdcocaaMg1
import Derived.Test.YtadejhlljdcocaaMg3
import Derived.Test.YtadejhlljdcocaaMg9
import Derived.Test.YtadejhlljdcocaaShelf
import Derived.Maps.Own
import Derived.Maps.OwnSet
import Derived.Maps.RangeWalk
import Derived.Deep.RegionLaw
import Derived.BigRegion
/-
  A history of what clients asked and were told, in memory: its events, and the numbers that are open.
-/







namespace Go.Proofs.Ytadejhlljdcocaa
open Go.RowKit
open Go.Maps (Keyed)
set_option linter.unusedVariables false
set_option linter.unusedSimpArgs false

/-- an event -/
structure EV where
  ans : Bool
  id : Int
  gate : Int
  what : Int
  at_ : Int
  len : Int
  data : ByteArray
  sure : Bool
  err : Int
  txt : ByteArray
def EV.c (e : EV) : List Value := [.bool e.ans, .int .i64 e.id, .int .i64 e.gate, .int .i64 e.what, .int .i64 e.at_, .int .i64 e.len, .string e.data, .bool e.sure, .int .i64 e.err, .string e.txt]
def evC (l : List EV) : List Value := l.flatMap EV.c
theorem evC_append (a b : List EV) : evC (a ++ b) = evC a ++ evC b := by simp [evC]
theorem evC_length (l : List EV) : (evC l).length = l.length * 10 := by
  induction l with
  | nil => rfl
  | cons x t ih => simp only [evC, List.flatMap_cons, List.length_append] at ih ⊢; rw [ih]; simp [EV.c]; omega
theorem evC_one (l : List EV) : ∀ y ∈ evC l, y.oneCell' = true := by
  intro y hy
  simp only [evC, List.mem_flatMap] at hy
  obtain ⟨u, hu, hy⟩ := hy
  simp only [EV.c, List.mem_cons, List.not_mem_nil, or_false] at hy
  rcases hy with rfl | rfl | rfl | rfl | rfl | rfl | rfl | rfl | rfl | rfl <;> rfl
theorem evC_get : ∀ (l : List EV) (j : Nat) (x : EV), l[j]? = some x → ∀ k v, x.c[k]? = some v → k < 10 → (evC l)[j * 10 + k]? = some v
  | [], j, t, h, _, _, _, _ => by simp at h
  | x :: r, 0, t, h, k, v, hv, hk => by
    simp at h
    subst h
    simp only [evC, List.flatMap_cons]
    rw [List.getElem?_append_left (by simp [EV.c]; omega)]
    simpa using hv
  | x :: r, j + 1, t, h, k, v, hv, hk => by
    simp only [evC, List.flatMap_cons]
    rw [List.getElem?_append_right (by simp [EV.c]; omega)]
    have := evC_get r j t (by simpa using h) k v hv hk
    simp only [evC] at this
    rw [← this]
    congr 1
    simp [EV.c]
    omega
noncomputable abbrev plI : Value → Option (DataW Unit × List MemPlace) := plainElem Try.prog 3
theorem keyI : Keyed Try.prog 3 := Go.Maps.int_keyed Try.underlying3
/-- a history at p, its map at b: its events, how many were asked, which are open -/
structure Hist (w : World) (N p b : Nat) (sv : Value) (E : List EV) (n : Nat) (op : List Int) : Prop where
  obj : w.heap[p]? = some (.cells #[sv, .int .i64 n, .map (some b)] 171)
  ev : w.ownsRow N 104 10 sv E.length (evC E)
  map : ∃ D, w.ownsMap Try.prog 3 plI b n D ∧ ∀ x, Maps.has D (.int .i64 x) = decide (x ∈ op)
  low : N ≤ p ∧ N ≤ b
  up : op.Pairwise (· < ·)
  rng : ∀ x ∈ op, 1 ≤ x ∧ x ≤ n
theorem own_type {w : World} {base g : Nat} {e : TypeId} {size n : Nat} {v : Value} {xs : List Value} (h : w.ownsRow base e size v n xs) (hv : v.ownBlock = some g) : ∃ cur, w.heap[g]? = some (.cells cur e (0, 0)) := by
  rcases h.2 with ⟨rfl, -⟩ | ⟨b, cap, cur, rfl, hb, hg, -⟩
  · cases hv
  · injection hv with hv
    subst hv
    exact ⟨cur, hg⟩
theorem own_move {w w' : World} {base : Nat} {e : TypeId} {size n : Nat} {v : Value} {xs : List Value} (h : w.ownsRow base e size v n xs) (hk : ∀ g, v.ownBlock = some g → w'.heap[g]? = w.heap[g]?) : w'.ownsRow base e size v n xs := by
  refine ⟨h.1, ?_⟩
  rcases h.2 with hn | ⟨g, cap, cur, rfl, hb, hg, rest⟩
  · exact .inl hn
  · exact .inr ⟨g, cap, cur, rfl, hb, (hk g rfl).trans hg, rest⟩
theorem Hist.ne {w : World} {N p b : Nat} {sv : Value} {E : List EV} {n : Nat} {op : List Int} (h : Hist w N p b sv E n op) : p ≠ b ∧ sv.ownBlock ≠ some p ∧ sv.ownBlock ≠ some b := by
  obtain ⟨D, ⟨es, clock, hm, -⟩, -⟩ := h.map
  refine ⟨fun e => ?_, fun e => ?_, fun e => ?_⟩
  · have := h.obj; rw [e, hm] at this; cases this
  · obtain ⟨cur, hc⟩ := own_type h.ev e
    rw [h.obj] at hc
    injection hc with hc
    injection hc with _ hc
    exact absurd hc (by decide)
  · obtain ⟨cur, hc⟩ := own_type h.ev e
    rw [hm] at hc
    cases hc
/-- what a change of it leaves -/
structure HKept (w w' : World) (p b : Nat) (sv sv' : Value) : Prop where
  os : w'.os = w.os
  tape : w'.tape = w.tape
  output : w'.output = w.output
  size : w.heap.size ≤ w'.heap.size
  block : ∀ k, k < w.heap.size → k ≠ p → k ≠ b → some k ≠ sv.ownBlock → w'.heap[k]? = w.heap[k]?
  new : ∀ k, sv'.ownBlock = some k → sv.ownBlock = some k ∨ w.heap.size ≤ k
theorem Hist.below {w w' : World} {N p b : Nat} {sv : Value} {E : List EV} {n : Nat} {op : List Int} (h : Hist w N p b sv E n op) (hb : Below w.heap.size w w') : Hist w' N p b sv E n op := by
  obtain ⟨D, hm, hh⟩ := h.map
  refine ⟨below_at hb (lt_heap h.obj) h.obj, owns_below h.ev hb, ⟨D, ?_, hh⟩, h.low, h.up, h.rng⟩
  have hlt := hm.lt
  obtain ⟨es, clock, h1, F⟩ := hm
  exact ⟨es, clock, (hb.block b hlt).trans h1, F⟩
theorem HKept.of_below {w w' : World} {p b : Nat} {sv : Value} (hb : Below w.heap.size w w') : HKept w w' p b sv sv := ⟨hb.os, hb.tape, hb.output, hb.size, fun k hk _ _ _ => hb.block k hk, fun k e => .inl e⟩
theorem HKept.trans {w x y : World} {p b : Nat} {s1 s2 s3 : Value} (h : HKept w x p b s1 s2) (k : HKept x y p b s2 s3) : HKept w y p b s1 s3 := by
  refine ⟨k.os.trans h.os, k.tape.trans h.tape, k.output.trans h.output, Nat.le_trans h.size k.size, fun i hi h1 h2 h3 => ?_, fun i e => ?_⟩
  · refine (k.block i (Nat.lt_of_lt_of_le hi h.size) h1 h2 fun e => ?_).trans (h.block i hi h1 h2 h3)
    rcases h.new i e.symm with q | q
    · exact h3 q.symm
    · omega
  · rcases k.new i e with q | q
    · exact h.new i q
    · exact .inr (Nat.le_trans h.size q)
/-- blocks below the history's own stay -/
theorem HKept.below {w w' : World} {N p b : Nat} {sv sv' : Value} {E : List EV} {n : Nat} {op : List Int} (h : Hist w N p b sv E n op) (k : HKept w w' p b sv sv') (hN : N ≤ w.heap.size) : Below N w w' :=
  ⟨k.os, k.tape, k.output, k.size, fun i hi => k.block i (by omega) (by have := h.low.1; omega) (by have := h.low.2; omega) (fun e => by have := (h.ev.lt i e.symm).1; omega)⟩
/-- a list that lies apart from it -/
def HApart (u sv : Value) (p b : Nat) : Prop := ∀ k, u.ownBlock = some k → k ≠ p ∧ k ≠ b ∧ sv.ownBlock ≠ some k
theorem own_hkept {w w' : World} {base p b : Nat} {e : TypeId} {size n : Nat} {u sv sv' : Value} {xs : List Value} (h : w.ownsRow base e size u n xs) (k : HKept w w' p b sv sv') (ha : HApart u sv p b) : w'.ownsRow base e size u n xs ∧ HApart u sv' p b := by
  have hlt : ∀ g, u.ownBlock = some g → g < w.heap.size := fun g eg => by
    obtain ⟨cur, hc⟩ := own_type h eg
    exact lt_heap hc
  refine ⟨own_move h fun g eg => k.block g (hlt g eg) (ha g eg).1 (ha g eg).2.1 (fun q => (ha g eg).2.2 q.symm), fun g eg => ⟨(ha g eg).1, (ha g eg).2.1, fun q => ?_⟩⟩
  rcases k.new g q with r | r
  · exact (ha g eg).2.2 r
  · have := hlt g eg; omega
end Go.Proofs.Ytadejhlljdcocaa
/-
  A voter's log whose commands are none: New, Add, Len, Term.
-/


namespace Go.Proofs.Ytadejhlljdcocaa
open Go.RowKit
set_option linter.unusedVariables false
set_option linter.unusedSimpArgs false

def confZ : Array Value := #[.int .i64 0, .int .i64 0, .int .i64 0, .slice none 0 0, .slice none 0 0]
def cmdZ : Array Value := #[.int .i64 0, .int .i64 0, .int .i64 0, .int .i64 0, .slice none 0 0, .slice none 0 0]
def entZ (t : Int) : Array Value := #[.int .i64 t, .int .i64 0, .int .i64 0, .int .i64 0, .int .i64 0, .slice none 0 0, .slice none 0 0]
theorem cnoneZ (w : World) : Calls Try.prog 191 #[.agg confZ] w fun e w' => e = .returned (.bool true) ∧ Below w.heap.size w w' := by
  have hb := (Below.refl w.heap.size w).alloc (Nat.le_refl _) (.cells confZ 31)
  have hx := heap_alloc_self w (.cells confZ 31)
  unfold confZ at *
  go_enter Try.func191, Try.ntmps191
  go_upto_region 1 with fail
  generalize w.alloc (.cells #[.int .i64 0, .int .i64 0, .int .i64 0, .slice none 0 0, .slice none 0 0] 31) = w1 at *
  have d0 : w1.cell? ⟨w.heap.size, 0, none⟩ = some (.int .i64 0) := by simp [World.cell?, hx]
  have d1 : w1.cell? ⟨w.heap.size, 1, none⟩ = some (.int .i64 0) := by simp [World.cell?, hx]
  have d2 : w1.cell? ⟨w.heap.size, 2, none⟩ = some (.int .i64 0) := by simp [World.cell?, hx]
  have d3 : w1.cell? ⟨w.heap.size, 3, none⟩ = some (.slice none 0 0) := by simp [World.cell?, hx]
  have d4 : w1.cell? ⟨w.heap.size, 4, none⟩ = some (.slice none 0 0) := by simp [World.cell?, hx]
  go_wp2_with fail
  go_ret
  exact ⟨rfl, hb⟩
theorem dmayZ (w : World) : Calls Try.prog 164 #[.agg cmdZ] w fun e w' => e = .returned (.bool true) ∧ Below w.heap.size w w' := by
  have hb := (Below.refl w.heap.size w).alloc (Nat.le_refl _) (.cells cmdZ 33)
  have hx := heap_alloc_self w (.cells cmdZ 33)
  have cn := fun w => cnoneZ w
  unfold cmdZ confZ at *
  go_enter Try.func164, Try.ntmps164
  go_upto_region 1 with fail
  generalize w.alloc (.cells #[.int .i64 0, .int .i64 0, .int .i64 0, .int .i64 0, .slice none 0 0, .slice none 0 0] 33) = w1 at *
  have d0 : w1.cell? ⟨w.heap.size, 0, none⟩ = some (.int .i64 0) := by simp [World.cell?, hx]
  have d1 : w1.cell? ⟨w.heap.size, 1, none⟩ = some (.int .i64 0) := by simp [World.cell?, hx]
  have d2 : w1.cell? ⟨w.heap.size, 2, none⟩ = some (.int .i64 0) := by simp [World.cell?, hx]
  have d3 : w1.cell? ⟨w.heap.size, 3, none⟩ = some (.int .i64 0) := by simp [World.cell?, hx]
  have d4 : w1.cell? ⟨w.heap.size, 4, none⟩ = some (.slice none 0 0) := by simp [World.cell?, hx]
  have d5 : w1.cell? ⟨w.heap.size, 5, none⟩ = some (.slice none 0 0) := by simp [World.cell?, hx]
  have HB := Lib.hid hb
  clear hb hx
  go_wp2_with fail
  refine Calls.mono (cn _) ?_
  rintro e w2 ⟨rfl, h2⟩
  have HB2 := Lib.hid (HB.out.trans (h2.mono HB.out.size))
  clear h2
  go_wp2_with fail
  go_ret
  exact ⟨rfl, HB2.out⟩
theorem emayZ (t : Int) (h1 : 1 ≤ t) (h2 : t ≤ 1048576) (w : World) : Calls Try.prog 128 #[.agg (entZ t)] w fun e w' => e = .returned (.bool true) ∧ Below w.heap.size w w' := by
  have hb := (Below.refl w.heap.size w).alloc (Nat.le_refl _) (.cells (entZ t) 35)
  have hx := heap_alloc_self w (.cells (entZ t) 35)
  have cn := fun w => dmayZ w
  unfold cmdZ entZ at *
  go_enter Try.func128, Try.ntmps128
  go_upto_region 1 with fail
  generalize w.alloc (.cells #[.int .i64 t, .int .i64 0, .int .i64 0, .int .i64 0, .int .i64 0, .slice none 0 0, .slice none 0 0] 35) = w1 at *
  have d0 : w1.cell? ⟨w.heap.size, 0, none⟩ = some (.int .i64 t) := by simp [World.cell?, hx]
  have d1 : w1.cell? ⟨w.heap.size, 1, none⟩ = some (.int .i64 0) := by simp [World.cell?, hx]
  have d2 : w1.cell? ⟨w.heap.size, 2, none⟩ = some (.int .i64 0) := by simp [World.cell?, hx]
  have d3 : w1.cell? ⟨w.heap.size, 3, none⟩ = some (.int .i64 0) := by simp [World.cell?, hx]
  have d4 : w1.cell? ⟨w.heap.size, 4, none⟩ = some (.int .i64 0) := by simp [World.cell?, hx]
  have d5 : w1.cell? ⟨w.heap.size, 5, none⟩ = some (.slice none 0 0) := by simp [World.cell?, hx]
  have d6 : w1.cell? ⟨w.heap.size, 6, none⟩ = some (.slice none 0 0) := by simp [World.cell?, hx]
  have HB := Lib.hid hb
  clear hb hx
  go_wp2_with fail
  refine Calls.mono (cn _) ?_
  rintro e w2 ⟨rfl, h2⟩
  have HB2 := Lib.hid (HB.out.trans (h2.mono HB.out.size))
  clear h2
  go_wp2_with fail
  go_ret
  exact ⟨rfl, HB2.out⟩
theorem cloneN (w : World) : Calls Try.prog 153 #[.slice none 0 0] w fun e w' => e = .returned (.slice none 0 0) ∧ w = w' :=
  (Try.slices_Clone_int_nil 0 0 w).mono fun e w' ⟨h1, h2⟩ => ⟨h1, h2.symm⟩
/-- the cells of a block known whole -/
theorem cell_at {w : World} {b : Nat} {A : Array Value} {t : TypeId} {fr : Nat × Nat} (h : w.heap[b]? = some (.cells A t fr)) (i : Nat) {v : Value} (hv : A[i]? = some v) : w.cell? ⟨b, i, none⟩ = some v := by
  simp [World.cell?, h, hv]
theorem far_obj {w : World} {p : Nat} {o' : Obj} (h : w.heap[p]? = some o') (o : Obj) : (w.alloc o).heap[p]? = some o' := ((Below.refl w.heap.size w).alloc (Nat.le_refl _) o).block p (lt_heap h) |>.trans h
/-- the same value stored again -/
theorem setCell_id {w : World} {b i : Nat} {A : Array Value} {t : TypeId} {v : Value} (h : w.heap[b]? = some (.cells A t)) (hv : A[i]? = some v) : w.setCell ⟨b, i, none⟩ v = w := by
  have hh : (w.setCell ⟨b, i, none⟩ v).heap = w.heap := by
    apply Array.ext_getElem?
    intro k
    by_cases hk : k = b
    · subst hk
      rw [heap_setCell_same _ _ _ _ _ _ h, h]
      congr 2
      obtain ⟨hk, -⟩ := Array.getElem?_eq_some_iff.1 hv
      apply Array.ext_getElem?
      intro j
      rw [Array.getElem?_setIfInBounds]
      split
      · next e => subst e; exact hv.symm
      · rfl
    · exact heap_setCell_other _ _ _ _ hk
  have : (w.setCell ⟨b, i, none⟩ v) = { w with heap := (w.setCell ⟨b, i, none⟩ v).heap } := rfl
  rw [this, hh]
set_option maxHeartbeats 1600000 in
theorem oconfZ (w : World) : Calls Try.prog 165 #[.agg confZ] w fun e w' => e = .returned (.agg confZ) ∧ Below w.heap.size w w' := by
  have hb : Below w.heap.size w ((w.alloc (.cells confZ 31)).alloc (.cells confZ 31)) := ((Below.refl _ _).alloc (Nat.le_refl _) _).alloc (by simp) _
  have hx := far_obj (heap_alloc_self w (.cells confZ 31)) (.cells confZ 31)
  have hy := heap_alloc_self (w.alloc (.cells confZ 31)) (.cells confZ 31)
  have hz : (w.alloc (.cells confZ 31)).heap.size = w.heap.size + 1 := by simp
  rw [hz] at hy
  have cn := fun w => cloneN w
  unfold confZ at *
  go_enter Try.func165, Try.ntmps165
  go_upto_region 1 with fail
  generalize (w.alloc (.cells #[.int .i64 0, .int .i64 0, .int .i64 0, .slice none 0 0, .slice none 0 0] 31)).alloc (.cells #[.int .i64 0, .int .i64 0, .int .i64 0, .slice none 0 0, .slice none 0 0] 31) = w1 at *
  have d0 := cell_at hx 0 (v := .int .i64 0) rfl
  have d1 := cell_at hx 1 (v := .int .i64 0) rfl
  have d2 := cell_at hx 2 (v := .int .i64 0) rfl
  have d3 := cell_at hx 3 (v := .slice none 0 0) rfl
  have d4 := cell_at hx 4 (v := .slice none 0 0) rfl
  have e0 := cell_at hy 0 (v := .int .i64 0) rfl
  have e1 := cell_at hy 1 (v := .int .i64 0) rfl
  have e2 := cell_at hy 2 (v := .int .i64 0) rfl
  have e3 := cell_at hy 3 (v := .slice none 0 0) rfl
  have e4 := cell_at hy 4 (v := .slice none 0 0) rfl
  have i3 := setCell_id hx (i := 3) (v := .slice none 0 0) rfl
  have i4 := setCell_id hx (i := 4) (v := .slice none 0 0) rfl
  have j0 := setCell_id hy (i := 0) (v := .int .i64 0) rfl
  have j1 := setCell_id hy (i := 1) (v := .int .i64 0) rfl
  have j2 := setCell_id hy (i := 2) (v := .int .i64 0) rfl
  have j3 := setCell_id hy (i := 3) (v := .slice none 0 0) rfl
  have j4 := setCell_id hy (i := 4) (v := .slice none 0 0) rfl
  have f1 : ∀ i, w1.frozen? ⟨w.heap.size, i, none⟩ = false := fun i => by simp [World.frozen?, hx]
  have f2 : ∀ i, w1.frozen? ⟨w.heap.size + 1, i, none⟩ = false := fun i => by simp [World.frozen?, hy]
  have HB := Lib.hid hb
  clear hb hx hy hz
  go_wp2_with fail
  refine Calls.mono (cn _) ?_
  rintro e w2 ⟨rfl, rfl⟩
  go_wp2_with fail
  refine Calls.mono (cn _) ?_
  rintro e w2 ⟨rfl, rfl⟩
  go_wp2_with fail
  refine bodyPost_ret (v := .agg #[.int .i64 0, .int .i64 0, .int .i64 0, .slice none 0 0, .slice none 0 0]) (by simp [results, Try.results165, go_sem, e0, e1, e2, e3, e4]) rfl ?_
  exact ⟨rfl, HB.out⟩
end Go.Proofs.Ytadejhlljdcocaa
/-
  A voter's log whose commands are none, further: own.Cmd, Len, Add.
-/



namespace Go.Proofs.Ytadejhlljdcocaa
open Go.RowKit
set_option linter.unusedVariables false
set_option linter.unusedSimpArgs false

section
variable {P : Program}
theorem run_app2 {t ty e : TypeId} {i : TypeInfo} {z : Value} {size bytes : Nat} (ht : P.underlying t = some (.slice e)) (hi : P.info? e = some i) (hz : i.zero = some z) (hsize : i.size = size) (hby : i.bytes = bytes)
    (hzs : z.cells.size = size) (hsz : 0 < size) (w : World) (base : Nat) (v : Value) (n : Nat) (xs : List Value) (hown : w.ownsRow base e size v n xs) (u : Value) (m : Nat) (news : List Value) (hr : SR w u size m news) (hm0 : 0 < m)
    (h1 : ∀ y ∈ news, y.oneCell' = true) (h63 : n + m ≤ maxLen) (hbytes : (n + m) * bytes ≤ 140737488355328) (hbase : base ≤ w.heap.size) :
    ∃ v' w', (Builtin.append_ #[t, t] ty #[v, u]).run P w = .ok v' w' ∧ w'.ownsRow base e size v' (n + m) (xs ++ news) ∧ w.grownBy w' v.ownBlock ∧ (v'.ownBlock = v.ownBlock ∨ v'.ownBlock = some w.heap.size) := by
  obtain ⟨a, cap, rfl, hmc, hcm, hl, hc⟩ := hr
  have hcells : ∀ ad, a = some ad → ∀ (j : Nat) y, news[j]? = some y → w.cell? (ad.add j) = some y := by
    intro ad e1 j y hj
    rcases hc with h0 | ⟨b, off, e2, _, hcell⟩
    · omega
    · rw [e1] at e2
      cases e2
      rw [add_off]
      exact hcell j y hj
  rcases hc with h0 | ⟨b, off, rfl, _, hcell⟩
  · omega
  · obtain ⟨v', w', hrun, h2, h3, _, h5⟩ := run_append_own_at (P := P) w base t ty e i z size bytes ht hi hz hsize hby hzs hsz v n xs hown ⟨b, off, none⟩ m cap news hl (hcells _ rfl) h1 h63 hbytes hbase
    exact ⟨v', w', hrun, h2, h3, h5⟩
theorem step_app2 {t e : TypeId} {i : TypeInfo} {z : Value} {size bytes : Nat} (ht : P.underlying t = some (.slice e)) (hi : P.info? e = some i) (hz : i.zero = some z) (hsize : i.size = size) (hby : i.bytes = bytes)
    (hzs : z.cells.size = size) (hsz : 0 < size) {ops : Array Oper} {o : Oper} {a : Act} {K : Act → World → Prop} {Q : Exit → Act → World → Prop} {E : Prop} {w : World} (hgd : o.guard = none) (s x : Operand)
    (ho : o.op = .call { callee := .builtin .append, args := #[s, x], argTypes := #[t, t] }) (base : Nat) (v : Value) (n : Nat) (xs : List Value) (hs : a.eval s = v) (hown : w.ownsRow base e size v n xs)
    (u : Value) (m : Nat) (news : List Value) (hx : a.eval x = u) (hr : SR w u size m news) (hm0 : 0 < m)
    (h1 : ∀ y ∈ news, y.oneCell' = true) (h63 : n + m ≤ maxLen) (hbytes : (n + m) * bytes ≤ 140737488355328) (hbase : base ≤ w.heap.size)
    (h : ∀ v' w', w'.ownsRow base e size v' (n + m) (xs ++ news) → w.grownBy w' v.ownBlock → (v'.ownBlock = v.ownBlock ∨ v'.ownBlock = some w.heap.size) → K (a.put o.dst v') w') :
    if Region.wanted o (yielded ops a.tmps) = true then Oper.wp P o a w K Q else E := by
  have hw : Region.wanted o (yielded ops a.tmps) = true := by simp [Region.wanted, hgd]
  rw [if_pos hw]
  obtain ⟨v', w', hrun, h2, h3, h4⟩ := run_app2 (P := P) (ty := o.type) ht hi hz hsize hby hzs hsz w base v n xs hown u m news hr hm0 h1 h63 hbytes hbase
  unfold Oper.wp execOp
  simp only [ho, resolve, invoke, builtin, Sem.run_bind, Sem.run_pure, Result.andThen_ok, List.map_toArray, List.map_cons, List.map_nil, hs, hx, hrun]
  exact h v' w' h2 h3 h4
end
set_option maxHeartbeats 1600000 in
theorem ocmdZ (w : World) : Calls Try.prog 129 #[.agg cmdZ] w fun e w' => e = .returned (.agg cmdZ) ∧ Below w.heap.size w w' := by
  have hb : Below w.heap.size w ((w.alloc (.cells cmdZ 33)).alloc (.cells cmdZ 33)) := ((Below.refl _ _).alloc (Nat.le_refl _) _).alloc (by simp) _
  have hx := far_obj (heap_alloc_self w (.cells cmdZ 33)) (.cells cmdZ 33)
  have hy := heap_alloc_self (w.alloc (.cells cmdZ 33)) (.cells cmdZ 33)
  have hz : (w.alloc (.cells cmdZ 33)).heap.size = w.heap.size + 1 := by simp
  rw [hz] at hy
  have cn := fun w => oconfZ w
  unfold confZ cmdZ at *
  go_enter Try.func129, Try.ntmps129
  go_upto_region 1 with fail
  generalize (w.alloc (.cells #[.int .i64 0, .int .i64 0, .int .i64 0, .int .i64 0, .slice none 0 0, .slice none 0 0] 33)).alloc (.cells #[.int .i64 0, .int .i64 0, .int .i64 0, .int .i64 0, .slice none 0 0, .slice none 0 0] 33) = w1 at *
  have d0 := cell_at hx 0 (v := .int .i64 0) rfl
  have d1 := cell_at hx 1 (v := .int .i64 0) rfl
  have d2 := cell_at hx 2 (v := .int .i64 0) rfl
  have d3 := cell_at hx 3 (v := .int .i64 0) rfl
  have d4 := cell_at hx 4 (v := .slice none 0 0) rfl
  have d5 := cell_at hx 5 (v := .slice none 0 0) rfl
  have HX := Lib.hid (And.intro hx (And.intro hy hb))
  clear hb hx hy hz
  go_wp2_with fail
  refine Calls.mono (cn _) ?_
  rintro e w2 ⟨rfl, h2⟩
  have hx := below_at h2 (lt_heap HX.out.1) HX.out.1
  have hy := below_at h2 (lt_heap HX.out.2.1) HX.out.2.1
  have HB := Lib.hid (HX.out.2.2.trans (h2.mono HX.out.2.2.size))
  clear d0 d1 d2 d3 d4 d5 h2 HX
  have d0 := cell_at hx 0 (v := .int .i64 0) rfl
  have d1 := cell_at hx 1 (v := .int .i64 0) rfl
  have d2 := cell_at hx 2 (v := .int .i64 0) rfl
  have d3 := cell_at hx 3 (v := .int .i64 0) rfl
  have d4 := cell_at hx 4 (v := .slice none 0 0) rfl
  have d5 := cell_at hx 5 (v := .slice none 0 0) rfl
  have e0 := cell_at hy 0 (v := .int .i64 0) rfl
  have e1 := cell_at hy 1 (v := .int .i64 0) rfl
  have e2 := cell_at hy 2 (v := .int .i64 0) rfl
  have e3 := cell_at hy 3 (v := .int .i64 0) rfl
  have e4 := cell_at hy 4 (v := .slice none 0 0) rfl
  have e5 := cell_at hy 5 (v := .slice none 0 0) rfl
  have i1 := setCell_id hx (i := 1) (v := .int .i64 0) rfl
  have i2 := setCell_id hx (i := 2) (v := .int .i64 0) rfl
  have i3 := setCell_id hx (i := 3) (v := .int .i64 0) rfl
  have i4 := setCell_id hx (i := 4) (v := .slice none 0 0) rfl
  have i5 := setCell_id hx (i := 5) (v := .slice none 0 0) rfl
  have j0 := setCell_id hy (i := 0) (v := .int .i64 0) rfl
  have j1 := setCell_id hy (i := 1) (v := .int .i64 0) rfl
  have j2 := setCell_id hy (i := 2) (v := .int .i64 0) rfl
  have j3 := setCell_id hy (i := 3) (v := .int .i64 0) rfl
  have j4 := setCell_id hy (i := 4) (v := .slice none 0 0) rfl
  have j5 := setCell_id hy (i := 5) (v := .slice none 0 0) rfl
  have f1 : ∀ i, w2.frozen? ⟨w.heap.size, i, none⟩ = false := fun i => by simp [World.frozen?, hx]
  have f2 : ∀ i, w2.frozen? ⟨w.heap.size + 1, i, none⟩ = false := fun i => by simp [World.frozen?, hy]
  clear hx hy
  go_wp2_with fail
  refine bodyPost_ret (v := .agg #[.int .i64 0, .int .i64 0, .int .i64 0, .int .i64 0, .slice none 0 0, .slice none 0 0]) (by simp [results, Try.results129, go_sem, e0, e1, e2, e3, e4, e5]) rfl ?_
  exact ⟨rfl, HB.out⟩
def eCells (ts : List Int) : List Value := ts.flatMap fun t => (entZ t).toList
theorem eCells_append (a b : List Int) : eCells a ++ eCells b = eCells (a ++ b) := by simp [eCells]
theorem eCells_one (l : List Int) : ∀ y ∈ eCells l, y.oneCell' = true := by
  intro y hy
  simp only [eCells, List.mem_flatMap, entZ] at hy
  obtain ⟨x, _, hx⟩ := hy
  simp at hx
  rcases hx with rfl | rfl | rfl <;> rfl
theorem eCells_length (l : List Int) : (eCells l).length = l.length * 7 := by
  induction l with
  | nil => rfl
  | cons x t ih => simp only [eCells, List.flatMap_cons, List.length_append] at ih ⊢; rw [ih]; simp [entZ]; omega
theorem eCells_get : ∀ (l : List Int) (j : Nat) (t : Int), l[j]? = some t → ∀ k v, (entZ t)[k]? = some v → k < 7 → (eCells l)[j * 7 + k]? = some v
  | [], j, t, h, _, _, _, _ => by simp at h
  | x :: r, 0, t, h, k, v, hv, hk => by
    simp at h
    subst h
    simp only [eCells, List.flatMap_cons]
    rw [List.getElem?_append_left (by simp [entZ]; omega)]
    simpa using hv
  | x :: r, j + 1, t, h, k, v, hv, hk => by
    simp only [eCells, List.flatMap_cons]
    rw [List.getElem?_append_right (by simp [entZ]; omega)]
    have := eCells_get r j t (by simpa using h) k v hv hk
    simp only [eCells] at this
    rw [← this]
    congr 1
    simp [entZ]
    omega
theorem owns_form3 {w : World} {base size n : Nat} {e : TypeId} {v : Value} {xs : List Value} (h : w.ownsRow base e size v n xs) : ∃ a c, v = .slice a n c := by
  rcases h.2 with ⟨rfl, rfl⟩ | ⟨g, cap, _, rfl, _⟩
  · exact ⟨none, 0, rfl⟩
  · exact ⟨_, cap, rfl⟩
theorem frz_at {w : World} {b : Nat} {A : Array Value} {t : TypeId} (h : w.heap[b]? = some (.cells A t)) (i : Nat) : w.frozen? ⟨b, i, none⟩ = false := by simp [World.frozen?, h]
/-- a log of such entries behind no place -/
structure LogZ (w : World) (N g : Nat) (v : Value) (ts : List Int) : Prop where
  low : N ≤ g
  obj : w.heap[g]? = some (.cells #[.int .i64 0, .int .i64 0, v] 135)
  row : w.ownsRow N 35 7 v ts.length (eCells ts)
theorem row_otherE {w : World} {base p size n : Nat} {e : TypeId} {v : Value} {xs : List Value} {A : Array Value} {t : TypeId} (h : w.ownsRow base e size v n xs) (hp : w.heap[p]? = some (.cells A t)) (ht : e ≠ t) : v.ownBlock ≠ some p := by
  rcases h.2 with ⟨rfl, rfl⟩ | ⟨g, cap, cur, rfl, hb, hg, r⟩
  · exact fun e => by cases e
  · intro e
    injection e with e
    simp only at e
    subst e
    rw [hg] at hp
    injection hp with hp
    injection hp with _ h2
    exact ht h2
theorem LogZ.below {w w' : World} {N g : Nat} {v : Value} {ts : List Int} (h : LogZ w N g v ts) (hb : Below w.heap.size w w') : LogZ w' N g v ts := ⟨h.low, below_at hb (lt_heap h.obj) h.obj, owns_below h.row hb⟩
theorem LogZ.drewN {w : World} {N g : Nat} {v : Value} {ts : List Int} (h : LogZ w N g v ts) (q : Nat) : LogZ (w.drewN q) N g v ts := h.below (below_drewN' (Below.refl _ _) q)
theorem LogZ.form {w : World} {N g : Nat} {v : Value} {ts : List Int} (h : LogZ w N g v ts) : ∃ a c, v = .slice a ts.length c := by
  rcases h.row.2 with ⟨rfl, h0⟩ | ⟨g, cap, _, rfl, _⟩
  · exact ⟨none, 0, by rw [h0]⟩
  · exact ⟨_, cap, rfl⟩
theorem LogZ.cells {w : World} {N g : Nat} {v : Value} {ts : List Int} (h : LogZ w N g v ts) : w.cell? ⟨g, 0, none⟩ = some (.int .i64 0) ∧ w.cell? ⟨g, 1, none⟩ = some (.int .i64 0) ∧ w.cell? ⟨g, 2, none⟩ = some v ∧ w.frozen? ⟨g, 2, none⟩ = false :=
  ⟨cell_at h.obj 0 rfl, cell_at h.obj 1 rfl, cell_at h.obj 2 rfl, by have := h.obj; simp [World.frozen?, this]⟩
theorem rlenZ (w : World) (N g : Nat) (v : Value) (ts : List Int) (h : LogZ w N g v ts) (hl : ts.length ≤ 1000) : Calls Try.prog 74 #[.pointer (some ⟨g, 0, none⟩)] w fun e w' => e = .returned (.int .i64 ts.length) ∧ ∃ q, w' = w.drewN q := by
  obtain ⟨c0, c1, c2, -⟩ := h.cells
  obtain ⟨a, c, rfl⟩ := h.form
  clear h
  generalize ts.length = n at *
  go_enter Try.func74, Try.ntmps74
  go_wp2_with fail
  go_quiet (fail)
  go_wp2_with fail
  go_ret
  exact ⟨by simp, _, rfl⟩
/-- what a further entry leaves -/
structure LKept (w w' : World) (N g : Nat) (v v' : Value) : Prop where
  below : Below N w w'
  size : w.heap.size ≤ w'.heap.size
  block : ∀ k, k < w.heap.size → k ≠ g → some k ≠ v.ownBlock → w'.heap[k]? = w.heap[k]?
  new : v'.ownBlock = v.ownBlock ∨ ∀ k, v'.ownBlock = some k → w.heap.size ≤ k
theorem LKept.drewN {w w' : World} {N g : Nat} {v v' : Value} (h : LKept w w' N g v v') (q : Nat) : LKept w (w'.drewN q) N g v v' := ⟨below_drewN' h.below q, h.size, h.block, h.new⟩
theorem drewN_moreR (w : World) (a b : Nat) : (w.drewN a).drewN b = w.drewN (a + b) := by unfold World.drewN; simp [Nat.add_assoc]
theorem LogZ.le {w : World} {N g : Nat} {v : Value} {ts : List Int} (h : LogZ w N g v ts) : N ≤ w.heap.size := Nat.le_trans h.low (Nat.le_of_lt (lt_heap h.obj))
theorem logZ_put {w w2 : World} {N g : Nat} {v v2 : Value} {ts : List Int} {o : Obj} {t : Int} (h : LogZ w N g v ts) (own2 : w2.ownsRow N 35 7 v2 (ts.length + 1) (eCells ts ++ eCells [t])) (hg : (w.alloc o).grownBy w2 v.ownBlock) (hn : v2.ownBlock = v.ownBlock ∨ v2.ownBlock = some (w.alloc o).heap.size) :
    w2.heap[g]? = some (.cells #[.int .i64 0, .int .i64 0, v] 135) ∧ LogZ (w2.setCell ⟨g, 2, none⟩ v2) N g v2 (ts ++ [t]) ∧ LKept w (w2.setCell ⟨g, 2, none⟩ v2) N g v v2 := by
  have hvo := row_otherE h.row h.obj (by decide)
  have hlt := lt_heap h.obj
  have hg0 : w.grownBy w2 v.ownBlock := ⟨hg.os, hg.tape, hg.output, Nat.le_trans (by simp) hg.size, fun k hk hne => (hg.block k (by simp; omega) hne).trans (Below.heap_alloc _ _ _ hk)⟩
  have hobj2 : w2.heap[g]? = some (.cells #[.int .i64 0, .int .i64 0, v] 135) := (hg0.block g hlt (fun e => hvo e.symm)).trans h.obj
  have v2o := row_otherE own2 hobj2 (by decide)
  have hset : ∀ k, k ≠ g → (w2.setCell ⟨g, 2, none⟩ v2).heap[k]? = w2.heap[k]? := fun k hk => heap_setCell_other _ _ _ _ hk
  have hgp : w2.grownBy (w2.setCell ⟨g, 2, none⟩ v2) (some g) := ⟨rfl, rfl, rfl, by simp, fun k _ hk => hset k (fun e => hk (by rw [e]))⟩
  refine ⟨hobj2, ⟨h.low, (heap_setCell_same _ _ _ _ _ _ hobj2).trans rfl, ?_⟩, ⟨?_, ?_, ?_, ?_⟩⟩
  · have := own2.kept hgp (.inr v2o)
    rw [List.length_append, ← eCells_append]
    exact this
  · exact ((Below.refl N w).grown hg0 h.le (fun k e => (h.row.lt k e).1)).setCell (p := ⟨g, 2, none⟩) h.low _
  · simpa [World.setCell] using hg0.size
  · exact fun k hk hkg hkv => (hset k hkg).trans (hg0.block k hk hkv)
  · rcases hn with hn | hn
    · exact .inl hn
    · right
      intro k e
      rw [hn] at e
      cases e
      simp
theorem einfo : (Try.prog.info? 35).map (fun i => (i.zero, i.size, i.bytes)) = some (some (.agg (entZ 0)), 7, 88) := by kernel_rfl
set_option maxHeartbeats 3200000 in
set_option maxRecDepth 100000 in
theorem raddZ (t : Int) (ht1 : 1 ≤ t) (ht2 : t ≤ 1048576) (w : World) (N g : Nat) (v : Value) (ts : List Int) (h : LogZ w N g v ts) (hl : ts.length < 300) :
    Calls Try.prog 73 #[.pointer (some ⟨g, 0, none⟩), .agg (entZ t)] w fun e w' => e = .returned (.tuple #[.int .i64 ((ts.length : Int) + 1), .bool true]) ∧ ∃ v', LogZ w' N g v' (ts ++ [t]) ∧ LKept w w' N g v v' := by
  obtain ⟨i0, hi, hz0, hz1, hz2⟩ := info_parts einfo
  obtain ⟨av, cv, rfl⟩ := h.form
  obtain ⟨n, hn⟩ : ∃ n, ts.length = n := ⟨_, rfl⟩
  rw [hn] at h hl
  rw [hn]
  have hb := (Below.refl w.heap.size w).alloc (Nat.le_refl _) (.cells (entZ t) 35)
  have hx := heap_alloc_self w (.cells (entZ t) 35)
  have h1 := h.below hb
  have ce := fun w => emayZ t ht1 ht2 w
  have co := fun w => ocmdZ w
  have HW := Lib.hid (And.intro h.le (fun (x y : World) (v' : Value) (hb : Below w.heap.size w x) (hk : LKept x y N g (.slice av n cv) v') => (show LKept w y N g (.slice av n cv) v' from ⟨(hb.mono h.le).trans hk.below, Nat.le_trans hb.size hk.size, fun k hlt h2 h3 => (hk.block k (Nat.lt_of_lt_of_le hlt hb.size) h2 h3).trans (hb.block k hlt), hk.new.imp id fun f k e => Nat.le_trans hb.size (f k e)⟩)))
  clear h
  unfold entZ cmdZ at *
  go_enter Try.func73, Try.ntmps73
  go_upto_region 1 with fail
  generalize w.alloc (.cells #[.int .i64 t, .int .i64 0, .int .i64 0, .int .i64 0, .int .i64 0, .slice none 0 0, .slice none 0 0] 35) = w1 at *
  have d0 := cell_at hx 0 (v := .int .i64 t) rfl
  have d1 := cell_at hx 1 (v := .int .i64 0) rfl
  have d2 := cell_at hx 2 (v := .int .i64 0) rfl
  have d3 := cell_at hx 3 (v := .int .i64 0) rfl
  have d4 := cell_at hx 4 (v := .int .i64 0) rfl
  have d5 := cell_at hx 5 (v := .slice none 0 0) rfl
  have d6 := cell_at hx 6 (v := .slice none 0 0) rfl
  obtain ⟨g0, g1, g2, gf⟩ := h1.cells
  have HX := Lib.hid (And.intro hx (And.intro hb h1))
  have HN := Lib.hid hn
  clear hx hb h1 hn
  go_wp2_with fail
  refine Calls.mono (ce _) ?_
  rintro e w2 ⟨rfl, h2⟩
  have hx := below_at h2 (lt_heap HX.out.1) HX.out.1
  have h3 := HX.out.2.2.below h2
  have HB := Lib.hid (HX.out.2.1.trans (h2.mono HX.out.2.1.size))
  clear d0 d1 d2 d3 d4 d5 d6 h2 HX g0 g1 g2 gf
  have d0 := cell_at hx 0 (v := .int .i64 t) rfl
  have d1 := cell_at hx 1 (v := .int .i64 0) rfl
  have d2 := cell_at hx 2 (v := .int .i64 0) rfl
  have d3 := cell_at hx 3 (v := .int .i64 0) rfl
  have d4 := cell_at hx 4 (v := .int .i64 0) rfl
  have d5 := cell_at hx 5 (v := .slice none 0 0) rfl
  have d6 := cell_at hx 6 (v := .slice none 0 0) rfl
  obtain ⟨g0, g1, g2, gf⟩ := h3.cells
  have HX := Lib.hid (And.intro hx h3)
  clear hx h3
  go_wp2_with fail
  refine Calls.mono (co _) ?_
  rintro e w3 ⟨rfl, h2⟩
  have hx := below_at h2 (lt_heap HX.out.1) HX.out.1
  have h3 := HX.out.2.below h2
  have HB3 := Lib.hid (HB.out.trans (h2.mono HB.out.size))
  clear d0 d1 d2 d3 d4 d5 d6 h2 HX g0 g1 g2 gf HB
  have d0 := cell_at hx 0 (v := .int .i64 t) rfl
  have d1 := cell_at hx 1 (v := .int .i64 0) rfl
  have d2 := cell_at hx 2 (v := .int .i64 0) rfl
  have d3 := cell_at hx 3 (v := .int .i64 0) rfl
  have d4 := cell_at hx 4 (v := .int .i64 0) rfl
  have d5 := cell_at hx 5 (v := .slice none 0 0) rfl
  have d6 := cell_at hx 6 (v := .slice none 0 0) rfl
  have i1 := setCell_id hx (i := 1) (v := .int .i64 0) rfl
  have i2 := setCell_id hx (i := 2) (v := .int .i64 0) rfl
  have i3 := setCell_id hx (i := 3) (v := .int .i64 0) rfl
  have i4 := setCell_id hx (i := 4) (v := .int .i64 0) rfl
  have i5 := setCell_id hx (i := 5) (v := .slice none 0 0) rfl
  have i6 := setCell_id hx (i := 6) (v := .slice none 0 0) rfl
  have f1 : ∀ i, w3.frozen? ⟨w.heap.size, i, none⟩ = false := fun i => by simp [World.frozen?, hx]
  obtain ⟨g0, g1, g2, gf⟩ := h3.cells
  have HL := Lib.hid h3
  clear hx h3
  go_upto_region 4 with fail
  clear i1 i2 i3 i4 i5 i6 f1
  have hlt3 : w.heap.size ≤ w3.heap.size := HB3.out.size
  have ho7 := HL.out.row
  rw [HN.out] at ho7
  have HO7 := Lib.hid ho7
  have hle := HL.out.le
  have gza : (w3.alloc (.cells #[.int .i64 t, .int .i64 0, .int .i64 0, .int .i64 0, .int .i64 0, .slice none 0 0, .slice none 0 0] 35)).cell? ⟨g, 2, none⟩ = some (.slice av n cv) := (World.cell?_alloc_lt w3 _ ⟨g, 2, none⟩ (lt_heap HL.out.obj)).trans g2
  have HLD := Lib.hid (HL.out.below (below_drew' (Below.refl _ _)))
  clear ho7
  go_region_law (first | (refine step_app2 Try.underlying22 hi hz0 hz1 hz2 rfl (by decide) rfl (.tmp 29) (.tmp 31) rfl N _ n (eCells ts) rfl ((owns_below HO7.out (Below.drew (Below.refl _ _))).alloc _) _ 1 (eCells [t]) rfl (SR.lit _ _ (entZ t) 7 1 (by decide) rfl) (by decide) (eCells_one _) (by unfold maxLen; omega) (by omega) (by simp; omega) ?_; intro v2 w4 own2 hg2 hn2; obtain ⟨a2, c2, rfl⟩ := owns_form3 own2; have LP := logZ_put (v2 := .slice a2 (n + 1) c2) HLD.out (by rw [HN.out]; exact own2) hg2 hn2; have y2 := cell_at LP.1 2 (v := .slice av n cv) rfl; have f2 := frz_at LP.1 2; have HLP := Lib.hid LP; clear LP own2 hg2 hn2))
  all_goals
    have HF := Lib.hid (HW.out.2 _ _ _ (below_drew' HB3.out) HLP.out.2.2)
    have hL5 := HLP.out.2.1
    have hln : (ts ++ [t]).length = n + 1 := by rw [List.length_append, HN.out]; rfl
    clear y2 f2 HLP HLD gza HO7 HL d0 d1 d2 d3 d4 d5 d6 g0 g1 g2 gf
    generalize w4.setCell ⟨g, 2, none⟩ (.slice a2 (n + 1) c2) = W5 at *
    have cl := rlenZ W5 N g _ _ hL5 (by rw [hln]; omega)
    rw [hln] at cl
    have HL5 := Lib.hid hL5
    clear hL5 hln
    go_wp2_with fail
    refine Calls.mono cl ?_
    rintro e w5 ⟨rfl, q, rfl⟩
    go_wp2_with fail
    go_returns
    exact ⟨by simp, _, HL5.out.drewN q, HF.out.drewN q⟩
/-- the term of the entry at a place -/
def termZ (ts : List Int) (x : Int) : Int := if 1 ≤ x then ts.getD (x.toNat - 1) 0 else 0
set_option maxHeartbeats 1600000 in
set_option maxRecDepth 100000 in
theorem rtermZ (x : Int) (w : World) (N g : Nat) (v : Value) (ts : List Int) (h : LogZ w N g v ts) (hl : ts.length ≤ 1000) (hx1 : -1000000 ≤ x) (hx2 : x ≤ 1000000) :
    Calls Try.prog 75 #[.pointer (some ⟨g, 0, none⟩), .int .i64 x] w fun e w' => e = .returned (.int .i64 (termZ ts x)) ∧ ∃ q, w' = w.drewN q := by
  obtain ⟨c0, c1, c2, -⟩ := h.cells
  obtain ⟨a, c, rfl⟩ := h.form
  have cl := rlenZ w N g _ ts h hl
  have hr := SR.owns h.row
  have HR := Lib.hid hr
  obtain ⟨n, hn⟩ : ∃ n, ts.length = n := ⟨_, rfl⟩
  rw [hn] at cl c2 hl
  have HN := Lib.hid hn
  unfold termZ
  clear h hr hn
  by_cases h0 : x < 0
  · rw [if_neg (by omega)]
    go_enter Try.func75, Try.ntmps75
    go_wp2_with fail
    go_ret
    exact ⟨rfl, 0, rfl⟩
  · by_cases h1 : (n : Int) < x
    · have hz : ts.getD (x.toNat - 1) 0 = 0 := by rw [List.getD_eq_getElem?_getD, List.getElem?_eq_none (by rw [HN.out]; omega)]; rfl
      have h2 : 1 ≤ x := by omega
      rw [if_pos h2, hz]
      clear hz
      go_enter Try.func75, Try.ntmps75
      go_wp2_with fail
      refine Calls.mono cl ?_
      rintro e w1 ⟨rfl, q, rfl⟩
      go_wp2_with fail
      go_ret
      exact ⟨rfl, q, rfl⟩
    · by_cases h2 : x = 0
      · subst h2
        rw [if_neg (by omega)]
        go_enter Try.func75, Try.ntmps75
        go_wp2_with fail
        refine Calls.mono cl ?_
        rintro e w1 ⟨rfl, q, rfl⟩
        go_wp2_with fail
        go_ret
        exact ⟨rfl, q, rfl⟩
      · rw [if_pos (by omega)]
        obtain ⟨k, hkx⟩ : ∃ k : Nat, x - 1 = k := ⟨(x - 1).toNat, by omega⟩
        rw [show x.toNat - 1 = k by omega]
        have hk : k < n := by omega
        obtain ⟨a', cap', he, h3, h4, h5, h6⟩ := HR.out
        injection he with e1 e2 e3
        subst e1 e3
        obtain ⟨b, off, rfl, hb, hc⟩ := h6.resolve_left (by have := HN.out; omega)
        have hkl : k < ts.length := by rw [HN.out]; exact hk
        have ck := hc (k * 7) (.int .i64 (ts.getD k 0)) (by
          have := eCells_get ts k (ts.getD k 0) (by rw [List.getD_eq_getElem?_getD, List.getElem?_eq_getElem hkl]; rfl) 0 (.int .i64 (ts.getD k 0)) rfl (by decide)
          simpa using this)
        obtain ⟨T, hT⟩ : ∃ T, ts.getD k 0 = T := ⟨_, rfl⟩
        rw [hT] at ck
        rw [hT]
        unfold maxLen at h4
        have n0 : (x == 0) = false := by simpa using h2
        have h7 : 1 ≤ x := by omega
        clear hc hT h5 h6 hkl HR
        go_enter Try.func75, Try.ntmps75
        go_wp2_with fail
        refine Calls.mono cl ?_
        rintro e w1 ⟨rfl, q, rfl⟩
        go_wp2_with fail
        go_quiet (fail)
        go_wp2_with fail
        go_ret
        exact ⟨rfl, _, drewN_moreR _ _ _⟩
end Go.Proofs.Ytadejhlljdcocaa
