/-
  Several texts, laid together.
-/
import Derived.Test.YtadejhlljdcocaaMg13
import Derived.Test.YtadejhlljdcocaaMg1
/-
  What nodes tell: as data; source.first and newest.
-/


namespace Go.Proofs.Ytadejhlljdcocaa
open Go.RowKit
set_option linter.unusedVariables false
set_option linter.unusedSimpArgs false

/-- what a node tells: its epoch, what it does, its lists, and where these lie -/
structure TD where
  e : Int
  d : Int
  D : List HI
  A : List HI
  vD : Value
  vA : Value
def TD.cells (t : TD) : Array Value := #[.int .i64 t.e, .int .i64 t.d, t.vD, t.vA]
def TD.at_ (w : World) (t : TD) : Prop := SR w t.vD 3 t.D.length (hCells t.D) ∧ SR w t.vA 3 t.A.length (hCells t.A)
theorem TD.at_.go {w w' : World} {t : TD} (h : t.at_ w) (hb : Below w.heap.size w w') : t.at_ w' := ⟨h.1.below hb, h.2.below hb⟩
def tCells (ts : List TD) : List Value := ts.flatMap fun t => t.cells.toList
theorem tCells_append (a b : List TD) : tCells a ++ tCells b = tCells (a ++ b) := by simp [tCells]
theorem tCells_length (l : List TD) : (tCells l).length = l.length * 4 := by
  induction l with
  | nil => rfl
  | cons x t ih => simp only [tCells, List.flatMap_cons, List.length_append] at ih ⊢; rw [ih]; simp [TD.cells]; omega
theorem tCells_get : ∀ (l : List TD) (j : Nat) (t : TD), l[j]? = some t → ∀ k v, t.cells[k]? = some v → k < 4 → (tCells l)[j * 4 + k]? = some v
  | [], j, t, h, _, _, _, _ => by simp at h
  | x :: r, 0, t, h, k, v, hv, hk => by
    simp at h
    subst h
    simp only [tCells, List.flatMap_cons]
    rw [List.getElem?_append_left (by simp [TD.cells]; omega)]
    simpa using hv
  | x :: r, j + 1, t, h, k, v, hv, hk => by
    simp only [tCells, List.flatMap_cons]
    rw [List.getElem?_append_right (by simp [TD.cells]; omega)]
    have := tCells_get r j t (by simpa using h) k v hv hk
    simp only [tCells] at this
    rw [← this]
    congr 1
    simp [TD.cells]
    omega
/-- all that is told -/
def TDs (w : World) (v : Value) (ts : List TD) : Prop := SR w v 4 ts.length (tCells ts) ∧ ∀ t ∈ ts, t.at_ w
theorem TDs.go {w w' : World} {v : Value} {ts : List TD} (h : TDs w v ts) (hb : Below w.heap.size w w') : TDs w' v ts := ⟨h.1.below hb, fun t ht => (h.2 t ht).go hb⟩
theorem TDs.cell {w : World} {a : Option Addr} {n cap : Nat} {ts : List TD} (h : TDs w (.slice a n cap) ts) (j : Nat) (t : TD) (ht : ts[j]? = some t) :
    n = ts.length ∧ ∃ b off, a = some ⟨b, off, none⟩ ∧ w.cell? ⟨b, off + j * 4, none⟩ = some (.int .i64 t.e) ∧ w.cell? ⟨b, off + j * 4 + 1, none⟩ = some (.int .i64 t.d) ∧ w.cell? ⟨b, off + j * 4 + 2, none⟩ = some t.vD ∧ w.cell? ⟨b, off + j * 4 + 3, none⟩ = some t.vA := by
  obtain ⟨⟨a', cap', he, h1, h2, h3, h4⟩, -⟩ := h
  injection he with e1 e2 e3
  subst e1 e2 e3
  have hj : j < ts.length := (List.getElem?_eq_some_iff.1 ht).1
  obtain ⟨b, off, rfl, hb, hc⟩ := h4.resolve_left (by omega)
  have key : ∀ k v, t.cells[k]? = some v → k < 4 → w.cell? ⟨b, off + j * 4 + k, none⟩ = some v := fun k v hk hk4 => by
    rw [Nat.add_assoc]
    exact hc _ _ (tCells_get ts j t ht k v hk hk4)
  exact ⟨rfl, b, off, rfl, key 0 _ rfl (by decide), key 1 _ rfl (by decide), key 2 _ rfl (by decide), key 3 _ rfl (by decide)⟩
theorem TD.forms {w : World} {t : TD} (h : t.at_ w) : (∃ a c, t.vD = .slice a t.D.length c) ∧ ∃ a c, t.vA = .slice a t.A.length c := by
  obtain ⟨a, c, e, -, -⟩ := h.1.form
  obtain ⟨a', c', e', -, -⟩ := h.2.form
  exact ⟨⟨a, c, e⟩, ⟨a', c', e'⟩⟩
/-- which does something in an epoch -/
def isIn (epoch does : Int) (t : TD) : Bool := decide (bits .and .i64 t.d does ≠ 0) && decide (t.e = epoch)
def TD0 : TD := ⟨0, 0, [], [], .slice none 0 0, .slice none 0 0⟩
def firstT (epoch does : Int) (ts : List TD) : Option TD := ts.find? (isIn epoch does)
def FirstPost (ts : List TD) (o : Option TD) (w : World) (e : Ending) (w' : World) : Prop := e = .returned (.tuple #[.agg (o.getD TD0).cells, .bool o.isSome]) ∧ Below w.heap.size w w'
theorem find_none {p : TD → Bool} {ts : List TD} {j : Nat} {t : TD} (h : (ts.take j).find? p = none) (ht : ts[j]? = some t) : (ts.take (j + 1)).find? p = if p t then some t else none := by
  rw [List.take_add_one, ht, List.find?_append, h]
  cases hpt : p t <;> simp [Option.toList, List.find?, hpt]
theorem find_hit {p : TD → Bool} {ts : List TD} {j : Nat} {t : TD} (h : (ts.take j).find? p = none) (ht : ts[j]? = some t) (hp : p t = true) : ts.find? p = some t := by
  have e := find_none h ht
  rw [if_pos hp] at e
  rw [← List.take_append_drop (j + 1) ts, List.find?_append, e]
  rfl
theorem scell {w : World} {b : Nat} {A : Array Value} {t : TypeId} {fr : Nat × Nat} (h : w.heap[b]? = some (.cells A t fr)) (i : Nat) {v : Value} (hv : A[i]? = some v) : w.cell? ⟨b, i, none⟩ = some v := by
  simp [World.cell?, h, hv]
theorem setCell_idS {w : World} {b i : Nat} {A : Array Value} {t : TypeId} {v : Value} (h : w.heap[b]? = some (.cells A t)) (hv : A[i]? = some v) : w.setCell ⟨b, i, none⟩ v = w := by
  have hh : (w.setCell ⟨b, i, none⟩ v).heap = w.heap := by
    apply Array.ext_getElem?
    intro k
    by_cases hk : k = b
    · subst hk
      rw [heap_set_self h i v, h]
      congr 2
      obtain ⟨hk, -⟩ := Array.getElem?_eq_some_iff.1 hv
      apply Array.ext_getElem?
      intro j
      rw [Array.getElem?_setIfInBounds]
      split
      · next e => subst e; exact hv.symm
      · rfl
    · exact heap_setCell_other _ _ _ _ hk
  have : (w.setCell ⟨b, i, none⟩ v) = { w with heap := (w.setCell ⟨b, i, none⟩ v).heap } := rfl
  rw [this, hh]
theorem sfrz {w : World} {b : Nat} {A : Array Value} {t : TypeId} (h : w.heap[b]? = some (.cells A t)) (i : Nat) : w.frozen? ⟨b, i, none⟩ = false := by simp [World.frozen?, h]
def FirstRel (ep dd : Int) (w wr : World) (v : Value) (ts : List TD) (j : Nat) : Prop := TDs wr v ts ∧ wr.heap[w.heap.size]? = some (.cells #[.int .i64 0, .int .i64 0, .slice none 0 0, .slice none 0 0] 83) ∧ Below w.heap.size w wr ∧ (ts.take j).find? (isIn ep dd) = none
set_option maxHeartbeats 3200000 in
set_option maxRecDepth 100000 in
theorem sfirst (ep dd : Int) (ts : List TD) (w : World) (v : Value) (hv : TDs w v ts) :
    Calls Try.prog 105 #[.int .i64 ep, .int .i64 dd, v] w (FirstPost ts (firstT ep dd ts) w) := by
  obtain ⟨a, cap, rfl, hlc, hcm⟩ := hv.1.form
  unfold maxLen at hcm
  have hx := heap_alloc_self w (.cells #[.int .i64 0, .int .i64 0, .slice none 0 0, .slice none 0 0] 83)
  have hb := (Below.refl w.heap.size w).alloc (Nat.le_refl _) (.cells #[.int .i64 0, .int .i64 0, .slice none 0 0, .slice none 0 0] 83)
  have H0 := Lib.hid (show FirstRel ep dd w _ (.slice a ts.length cap) ts 0 from ⟨hv.go hb, hx, hb, rfl⟩)
  unfold firstT
  obtain ⟨o, ho⟩ : ∃ o, ts.find? (isIn ep dd) = o := ⟨_, rfl⟩
  rw [ho]
  have HO := Lib.hid ho
  obtain ⟨n, hn⟩ : ∃ n, ts.length = n := ⟨_, rfl⟩
  rw [hn] at H0 hlc
  rw [hn]
  have HN := Lib.hid hn
  clear hv hx hb ho hn
  go_enter Try.func105, Try.ntmps105
  go_wp2_with fail
  go_loopw [12] (fun i wr => ∃ j : Nat, j ≤ n ∧ i = .int .i64 j ∧ Hid (FirstRel ep dd w wr (.slice a n cap) ts j)) (fun i _ => n - (intOf i).toNat)
  case atStart => exact ⟨0, Nat.zero_le _, rfl, H0⟩
  case round =>
    obtain ⟨j, hj, rfl, HR⟩ := hrel
    clear H0
    by_cases hlt : j < n
    · obtain ⟨t, ht⟩ : ∃ t, ts[j]? = some t := ⟨_, List.getElem?_eq_getElem (by have := HN.out; omega)⟩
      obtain ⟨hR1, hR2, hR3, hR4⟩ := HR.out
      obtain ⟨-, b, off, rfl, k0, k1, k2, k3⟩ := hR1.cell j t ht
      obtain ⟨⟨aD, cD, eD⟩, ⟨aA, cA, eA⟩⟩ := TD.forms (hR1.2 t (List.mem_of_getElem? ht))
      rw [eD] at k2
      rw [eA] at k3
      have hcl : t.cells = #[.int .i64 t.e, .int .i64 t.d, .slice aD t.D.length cD, .slice aA t.A.length cA] := by unfold TD.cells; rw [eD, eA]
      have hb1 := (Below.refl wr.heap.size wr).alloc (Nat.le_refl _) (.cells #[.int .i64 t.e, .int .i64 t.d, .slice aD t.D.length cD, .slice aA t.A.length cA] 83)
      have hy := heap_alloc_self wr (.cells #[.int .i64 t.e, .int .i64 t.d, .slice aD t.D.length cD, .slice aA t.A.length cA] 83)
      have hx2 := below_at hb1 (lt_heap hR2) hR2
      have hnx := find_none hR4 ht
      have hht := find_hit (p := isIn ep dd) hR4 ht
      have HB := Lib.hid (And.intro (hR1.go hb1) (And.intro hx2 (And.intro (hR3.trans (hb1.mono hR3.size)) (And.intro hnx (And.intro hht hcl)))))
      obtain ⟨p, hp⟩ : ∃ p, isIn ep dd t = p := ⟨_, rfl⟩
      have hp2 : p = (decide (bits .and .i64 t.d dd ≠ 0) && decide (t.e = ep)) := by rw [← hp]; rfl
      have HP := Lib.hid hp
      generalize t.e = te at *
      generalize t.d = td at *
      obtain ⟨X, hX⟩ : ∃ X, bits .and .i64 td dd = X := ⟨_, rfl⟩
      rw [hX] at hp2
      clear hR1 hR3 hR4 hb1 hnx hht hcl hp eD eA ht
      go_upto_region 4 with fail
      generalize wr.alloc (.cells #[.int .i64 te, .int .i64 td, .slice aD t.D.length cD, .slice aA t.A.length cA] 83) = w2 at *
      have d0 := scell hy 0 (v := .int .i64 te) rfl
      have d1 := scell hy 1 (v := .int .i64 td) rfl
      have d2 := scell hy 2 (v := .slice aD t.D.length cD) rfl
      have d3 := scell hy 3 (v := .slice aA t.A.length cA) rfl
      clear hy k0 k1 k2 k3 hR2
      have hb1 : (X != 0) = decide (X ≠ 0) := by by_cases h : X = 0 <;> simp [h]
      have hb2 : (te == ep) = decide (te = ep) := by by_cases h : te = ep <;> simp [h]
      have s0 := scell hx2 0 (v := .int .i64 0) rfl
      have s1 := scell hx2 1 (v := .int .i64 0) rfl
      have s2 := scell hx2 2 (v := .slice none 0 0) rfl
      have s3 := scell hx2 3 (v := .slice none 0 0) rfl
      have fz := sfrz hx2
      have hpe := HP.out
      by_cases hc : p = true
      · rw [hc] at hp2 hpe
        obtain ⟨hc1, hc2⟩ := Bool.and_eq_true_iff.1 hp2.symm
        rw [hc1] at hb1
        rw [hc2] at hb2
        have e2 := HB.out.2.2.2.2.1 hpe
        have ecl := HB.out.2.2.2.2.2
        have eo : o = some t := by rw [← HO.out, e2]
        subst eo
        have hX2 := heap_set_self (heap_set_self (heap_set_self (heap_set_self hx2 0 (.int .i64 te)) 1 (.int .i64 td)) 2 (.slice aD t.D.length cD)) 3 (.slice aA t.A.length cA)
        have hB2 := (((HB.out.2.2.1.setCell (p := ⟨w.heap.size, 0, none⟩) (Nat.le_refl _) (.int .i64 te)).setCell (p := ⟨w.heap.size, 1, none⟩) (Nat.le_refl _) (.int .i64 td)).setCell (p := ⟨w.heap.size, 2, none⟩) (Nat.le_refl _) (.slice aD t.D.length cD)).setCell (p := ⟨w.heap.size, 3, none⟩) (Nat.le_refl _) (.slice aA t.A.length cA)
        have HF := Lib.hid (And.intro hX2 (And.intro hB2 ecl))
        clear hp2 hpe hc1 hc2 e2 ecl hX2 hB2 hx2 HB HO hc
        go_wp2_with fail
        (try simp only [Exit.inBlock, Exit.then])
        generalize (((w2.setCell ⟨w.heap.size, 0, none⟩ (.int .i64 te)).setCell ⟨w.heap.size, 1, none⟩ (.int .i64 td)).setCell ⟨w.heap.size, 2, none⟩ (.slice aD t.D.length cD)).setCell ⟨w.heap.size, 3, none⟩ (.slice aA t.A.length cA) = wf at *
        obtain ⟨hX2, hB2, ecl⟩ := HF.out
        have r0 := scell hX2 0 (v := .int .i64 te) rfl
        have r1 := scell hX2 1 (v := .int .i64 td) rfl
        have r2 := scell hX2 2 (v := .slice aD t.D.length cD) rfl
        have r3 := scell hX2 3 (v := .slice aA t.A.length cA) rfl
        refine bodyPost_ret (v := .tuple #[.agg #[.int .i64 te, .int .i64 td, .slice aD t.D.length cD, .slice aA t.A.length cA], .bool true]) (by simp [results, Try.results105, go_sem, r0, r1, r2, r3]) rfl ?_
        refine ⟨?_, hB2⟩
        simp only [Option.getD, Option.isSome, ecl]
      · have hc' : p = false := by simpa using hc
        rw [hc'] at hp2 hpe
        have e2 := HB.out.2.2.2.1
        rw [hpe] at e2
        have HF := Lib.hid (show FirstRel ep dd w w2 _ ts (j + 1) from ⟨HB.out.1, HB.out.2.1, HB.out.2.2.1, e2⟩)
        clear e2 hpe hc
        by_cases hc1 : X ≠ 0
        · have hc2 : ¬ te = ep := fun h => by simp [hc1, h] at hp2
          rw [decide_eq_true hc1] at hb1
          rw [decide_eq_false hc2] at hb2
          clear hp2 hc1 hc2 hx2 HB
          go_wp2_with fail
          go_roundw
          · exact ⟨j + 1, by omega, by simp, HF⟩
          · simp only [intOf]
            omega
        · rw [decide_eq_false hc1] at hb1
          clear hp2 hc1 hb2 hx2 HB
          go_wp2_with fail
          go_roundw
          · exact ⟨j + 1, by omega, by simp, HF⟩
          · simp only [intOf]
            omega
    · obtain ⟨hR1, hx2, hR3, hR4⟩ := HR.out
      have s0 := scell hx2 0 (v := .int .i64 0) rfl
      have s1 := scell hx2 1 (v := .int .i64 0) rfl
      have s2 := scell hx2 2 (v := .slice none 0 0) rfl
      have s3 := scell hx2 3 (v := .slice none 0 0) rfl
      have z0 := setCell_idS hx2 (i := 0) (v := .int .i64 0) rfl
      have z1 := setCell_idS hx2 (i := 1) (v := .int .i64 0) rfl
      have z2 := setCell_idS hx2 (i := 2) (v := .slice none 0 0) rfl
      have z3 := setCell_idS hx2 (i := 3) (v := .slice none 0 0) rfl
      have fz := sfrz hx2
      rw [List.take_of_length_le (by have := HN.out; omega), HO.out] at hR4
      subst hR4
      have HF := Lib.hid hR3
      clear hR1 hx2 hR3 HR HO
      go_wp2_with fail
      (try simp only [Exit.inBlock, Exit.then])
      refine bodyPost_ret (v := .tuple #[.agg #[.int .i64 0, .int .i64 0, .slice none 0 0, .slice none 0 0], .bool false]) (by simp [results, Try.results105, go_sem, s0, s1, s2, s3]) rfl ?_
      exact ⟨rfl, HF.out⟩
end Go.Proofs.Ytadejhlljdcocaa
/-
  source.newest.
-/

namespace Go.Proofs.Ytadejhlljdcocaa
open Go.RowKit
set_option linter.unusedVariables false
set_option linter.unusedSimpArgs false

/-- is it a chain of an epoch above e? -/
def isAb (e : Int) (t : TD) : Bool := decide (bits .and .i64 t.d 2 ≠ 0) && decide (t.e > e)
def nstep (s : Option TD × Int) (t : TD) : Option TD × Int := if isAb s.2 t then (some t, t.e) else s
def nfold (E : Int) (ts : List TD) : Option TD × Int := ts.foldl nstep (none, E)
def newT (E : Int) (ts : List TD) : Option TD := (nfold E ts).1
theorem nfold_next {E : Int} {ts : List TD} {j : Nat} {t : TD} (h : ts[j]? = some t) : nfold E (ts.take (j + 1)) = nstep (nfold E (ts.take j)) t := by
  unfold nfold
  rw [List.take_add_one, h, List.foldl_append]
  rfl
theorem nfold_some (ts : List TD) : ∀ s : Option TD × Int, (ts.foldl nstep s).1.isSome = (s.1.isSome || ts.any (isAb s.2)) := by
  induction ts with
  | nil => intro s; simp
  | cons t r ih =>
    intro s
    rw [List.foldl_cons, ih, List.any_cons]
    unfold nstep
    cases h : isAb s.2 t <;> simp
theorem newT_some (E : Int) (ts : List TD) : (newT E ts).isSome = ts.any (isAb E) := by
  unfold newT nfold
  rw [nfold_some]
  rfl
def zT : Array Value := #[.int .i64 0, .int .i64 0, .slice none 0 0, .slice none 0 0]
def NewRel (E : Int) (w wr : World) (v : Value) (ts : List TD) (j : Nat) (s : Option TD × Int) : Prop :=
  TDs wr v ts ∧ wr.heap[w.heap.size]? = some (.cells #[.int .i64 0, .int .i64 0, .slice none 0 0, .slice none 0 0] 83) ∧ wr.heap[w.heap.size + 1]? = some (.cells (s.1.getD TD0).cells 83) ∧ Below w.heap.size w wr ∧ nfold E (ts.take j) = s ∧ ∀ t ∈ s.1, t ∈ ts
theorem TDs.forms {w : World} {v : Value} {ts : List TD} (h : TDs w v ts) (s : Option TD) (hs : ∀ t ∈ s, t ∈ ts) : ∃ e d aD nD cD aA nA cA, (s.getD TD0).cells = #[.int .i64 e, .int .i64 d, .slice aD nD cD, .slice aA nA cA] := by
  cases s with
  | none => exact ⟨0, 0, none, 0, 0, none, 0, 0, rfl⟩
  | some t =>
    obtain ⟨⟨aD, cD, eD⟩, ⟨aA, cA, eA⟩⟩ := TD.forms (h.2 t (hs t rfl))
    exact ⟨t.e, t.d, aD, t.D.length, cD, aA, t.A.length, cA, by simp [TD.cells, eD, eA]⟩
theorem set_farS {w : World} {g : Nat} {ob : Obj} {p : Addr} {u : Value} (h : w.heap[g]? = some ob) (hne : g ≠ p.block) : (w.setCell p u).heap[g]? = some ob := (Below.heap_setCell w p u g hne).trans h
set_option maxHeartbeats 6400000 in
set_option maxRecDepth 100000 in
theorem snewest (E : Int) (ts : List TD) (w : World) (v : Value) (hv : TDs w v ts) :
    Calls Try.prog 102 #[.int .i64 E, v] w (FirstPost ts (newT E ts) w) := by
  obtain ⟨a, cap, rfl, hlc, hcm⟩ := hv.1.form
  unfold maxLen at hcm
  have hx0 := heap_alloc_self w (.cells #[.int .i64 0, .int .i64 0, .slice none 0 0, .slice none 0 0] 83)
  have hb0 := (Below.refl w.heap.size w).alloc (Nat.le_refl _) (.cells #[.int .i64 0, .int .i64 0, .slice none 0 0, .slice none 0 0] 83)
  have hz : (w.alloc (.cells #[.int .i64 0, .int .i64 0, .slice none 0 0, .slice none 0 0] 83)).heap.size = w.heap.size + 1 := by simp
  have hx1 := heap_alloc_self (w.alloc (.cells #[.int .i64 0, .int .i64 0, .slice none 0 0, .slice none 0 0] 83)) (.cells #[.int .i64 0, .int .i64 0, .slice none 0 0, .slice none 0 0] 83)
  rw [hz] at hx1
  have hb1 := hb0.alloc (by simp) (.cells #[.int .i64 0, .int .i64 0, .slice none 0 0, .slice none 0 0] 83)
  have hx2 : ((w.alloc (.cells #[.int .i64 0, .int .i64 0, .slice none 0 0, .slice none 0 0] 83)).alloc (.cells #[.int .i64 0, .int .i64 0, .slice none 0 0, .slice none 0 0] 83)).heap[w.heap.size]? = _ := (Below.heap_alloc _ _ _ (lt_heap hx0)).trans hx0
  have H0 := Lib.hid (show NewRel E w _ (.slice a ts.length cap) ts 0 (none, E) from ⟨hv.go hb1, hx2, hx1, hb1, rfl, fun t ht => by simp at ht⟩)
  obtain ⟨o, ho⟩ : ∃ o, nfold E ts = o := ⟨_, rfl⟩
  unfold newT
  rw [ho]
  have HO := Lib.hid ho
  obtain ⟨n, hn⟩ : ∃ n, ts.length = n := ⟨_, rfl⟩
  rw [hn] at H0 hlc hv
  rw [hn]
  have HN := Lib.hid hn
  have HV := Lib.hid hv
  clear hv hx0 hx1 hx2 hb0 hb1 hz ho hn
  go_enter Try.func102, Try.ntmps102
  go_wp2_with fail
  go_loopw [0, 7, 12] (fun ev kv i wr => ∃ (j : Nat) (s : Option TD × Int), j ≤ n ∧ i = .int .i64 j ∧ ev = .int .i64 s.2 ∧ kv = .bool s.1.isSome ∧ Hid (NewRel E w wr (.slice a n cap) ts j s)) (fun _ _ i _ => n - (intOf i).toNat)
  case atStart => exact ⟨0, (none, E), Nat.zero_le _, rfl, rfl, rfl, H0⟩
  case round =>
    obtain ⟨j, s, hj, rfl, rfl, rfl, HR⟩ := hrel
    clear H0
    by_cases hlt : j < n
    · obtain ⟨t, ht⟩ : ∃ t, ts[j]? = some t := ⟨_, List.getElem?_eq_getElem (by have := HN.out; omega)⟩
      obtain ⟨hR1, hR2, hR3, hR4, hR5, hR6⟩ := HR.out
      obtain ⟨-, b, off, rfl, k0, k1, k2, k3⟩ := hR1.cell j t ht
      have htm := List.mem_of_getElem? ht
      obtain ⟨⟨aD, cD, eD⟩, ⟨aA, cA, eA⟩⟩ := TD.forms (hR1.2 t htm)
      rw [eD] at k2
      rw [eA] at k3
      have hcl : t.cells = #[.int .i64 t.e, .int .i64 t.d, .slice aD t.D.length cD, .slice aA t.A.length cA] := by unfold TD.cells; rw [eD, eA]
      obtain ⟨fe, fd, fD, fn, fc, fA, fm, fg, hfc⟩ := hR1.forms s.1 hR6
      rw [hfc] at hR3
      have hb1 := (Below.refl wr.heap.size wr).alloc (Nat.le_refl _) (.cells #[.int .i64 t.e, .int .i64 t.d, .slice aD t.D.length cD, .slice aA t.A.length cA] 83)
      have hy := heap_alloc_self wr (.cells #[.int .i64 t.e, .int .i64 t.d, .slice aD t.D.length cD, .slice aA t.A.length cA] 83)
      have hx2 := below_at hb1 (lt_heap hR2) hR2
      have hx3 := below_at hb1 (lt_heap hR3) hR3
      have hnx := nfold_next (E := E) ht
      rw [hR5] at hnx
      have hlt3 := lt_heap hR3
      have HB := Lib.hid (And.intro (hR1.go hb1) (And.intro hx2 (And.intro hx3 (And.intro (hR4.trans (hb1.mono hR4.size)) (And.intro hnx (And.intro hcl (And.intro htm (And.intro hR6 hfc))))))))
      obtain ⟨p, hp⟩ : ∃ p, isAb s.2 t = p := ⟨_, rfl⟩
      have hp2 : p = (decide (bits .and .i64 t.d 2 ≠ 0) && decide (t.e > s.2)) := by rw [← hp]; rfl
      have HP := Lib.hid hp
      obtain ⟨te, hte⟩ : ∃ te, te = t.e := ⟨_, rfl⟩
      obtain ⟨td, htd⟩ : ∃ td, td = t.d := ⟨_, rfl⟩
      obtain ⟨se, hse⟩ : ∃ se, se = s.2 := ⟨_, rfl⟩
      obtain ⟨sk, hsk⟩ : ∃ sk, sk = s.1.isSome := ⟨_, rfl⟩
      rw [← hte, ← htd] at hy hx2 hx3 HB
      rw [← hte] at k0
      rw [← htd] at k1
      rw [← hte, ← htd, ← hse] at hp2
      rw [← hse, ← hsk]
      have HT := Lib.hid (And.intro hte (And.intro htd (And.intro hse hsk)))
      obtain ⟨X, hX⟩ : ∃ X, bits .and .i64 td 2 = X := ⟨_, rfl⟩
      rw [hX] at hp2
      clear hR1 hR4 hR5 hR6 hb1 hnx hcl hp eD eA ht htm hfc hte htd hse hsk
      go_upto_region 6 with fail
      generalize wr.alloc (.cells #[.int .i64 te, .int .i64 td, .slice aD t.D.length cD, .slice aA t.A.length cA] 83) = w2 at *
      have d0 := scell hy 0 (v := .int .i64 te) rfl
      have d1 := scell hy 1 (v := .int .i64 td) rfl
      have d2 := scell hy 2 (v := .slice aD t.D.length cD) rfl
      have d3 := scell hy 3 (v := .slice aA t.A.length cA) rfl
      have hb1 : (X != 0) = decide (X ≠ 0) := by by_cases h : X = 0 <;> simp [h]
      have hpe := HP.out
      by_cases hc : p = true
      · rw [hc] at hp2 hpe
        obtain ⟨hc1, hc2⟩ := Bool.and_eq_true_iff.1 hp2.symm
        rw [hc1] at hb1
        have hc3 : se < te := of_decide_eq_true hc2
        have s0 := scell hx3 0 (v := .int .i64 fe) rfl
        have s1 := scell hx3 1 (v := .int .i64 fd) rfl
        have s2 := scell hx3 2 (v := .slice fD fn fc) rfl
        have s3 := scell hx3 3 (v := .slice fA fm fg) rfl
        have fz := sfrz hx3
        obtain ⟨h1, h2, h3, h4, h5, h6, h7, h8, h9⟩ := HB.out
        have hX := heap_set_self (heap_set_self (heap_set_self (heap_set_self hx3 0 (.int .i64 te)) 1 (.int .i64 td)) 2 (.slice aD t.D.length cD)) 3 (.slice aA t.A.length cA)
        have hO := set_farS (p := ⟨w.heap.size + 1, 3, none⟩) (u := .slice aA t.A.length cA) (set_farS (p := ⟨w.heap.size + 1, 2, none⟩) (u := .slice aD t.D.length cD) (set_farS (p := ⟨w.heap.size + 1, 1, none⟩) (u := .int .i64 td) (set_farS (p := ⟨w.heap.size + 1, 0, none⟩) (u := .int .i64 te) hx2 (by simp)) (by simp)) (by simp)) (by simp)
        have hB := (((h4.setCell (p := ⟨w.heap.size + 1, 0, none⟩) (Nat.le_succ _) (.int .i64 te)).setCell (p := ⟨w.heap.size + 1, 1, none⟩) (Nat.le_succ _) (.int .i64 td)).setCell (p := ⟨w.heap.size + 1, 2, none⟩) (Nat.le_succ _) (.slice aD t.D.length cD)).setCell (p := ⟨w.heap.size + 1, 3, none⟩) (Nat.le_succ _) (.slice aA t.A.length cA)
        have hB' := below_drew' hB
        have hX' : ((((w2.setCell ⟨w.heap.size + 1, 0, none⟩ (.int .i64 te)).setCell ⟨w.heap.size + 1, 1, none⟩ (.int .i64 td)).setCell ⟨w.heap.size + 1, 2, none⟩ (.slice aD t.D.length cD)).setCell ⟨w.heap.size + 1, 3, none⟩ (.slice aA t.A.length cA)).heap[w.heap.size + 1]? = some (Obj.cells t.cells 83) := by rw [h6]; exact hX
        have e2 : nfold E (ts.take (j + 1)) = (some t, t.e) := by rw [h5]; unfold nstep; rw [hpe]; rfl
        have HF := Lib.hid (show NewRel E w ((((w2.setCell ⟨w.heap.size + 1, 0, none⟩ (.int .i64 te)).setCell ⟨w.heap.size + 1, 1, none⟩ (.int .i64 td)).setCell ⟨w.heap.size + 1, 2, none⟩ (.slice aD t.D.length cD)).setCell ⟨w.heap.size + 1, 3, none⟩ (.slice aA t.A.length cA)).drew _ ts (j + 1) (some t, t.e) from ⟨HV.out.go hB', hO, hX', hB', e2, fun u hu => by cases hu; exact h7⟩)
        clear hp2 hpe hc1 hc2 hx2 hR2 hR3 k0 k1 k2 k3 hc h1 h2 h3 h4 h5 h6 h7 h8 h9 hX hO hB hX' hB' e2
        go_upto_region 7 with fail
        go_region_law fail
        all_goals
          go_wp2_with fail
          go_roundw
          · exact ⟨j + 1, _, by omega, by simp, by rw [HT.out.1], rfl, HF⟩
          · simp only [intOf]
            omega
      · have hc' : p = false := by simpa using hc
        rw [hc'] at hp2 hpe
        obtain ⟨h1, h2, h3, h4, h5, h6, h7, h8, h9⟩ := HB.out
        have e2 : nfold E (ts.take (j + 1)) = s := by rw [h5]; unfold nstep; rw [hpe]; rfl
        have HF := Lib.hid (show NewRel E w w2 _ ts (j + 1) s from ⟨h1, h2, by rw [h9]; exact h3, h4, e2, h8⟩)
        clear h1 h2 h3 h4 h5 h6 h7 h8 h9 e2 hpe hc HB
        by_cases hc1 : X ≠ 0
        · have hc2 : ¬ se < te := fun h => by simp [hc1, h] at hp2
          rw [decide_eq_true hc1] at hb1
          clear hp2 hc1 hx2 hx3 hy hR2 hR3
          go_wp2_with fail
          go_roundw
          · exact ⟨j + 1, s, by omega, by simp, by rw [HT.out.2.2.1], by rw [HT.out.2.2.2], HF⟩
          · simp only [intOf]
            omega
        · rw [decide_eq_false hc1] at hb1
          clear hp2 hc1 hx2 hx3 hy hR2 hR3
          go_wp2_with fail
          go_roundw
          · exact ⟨j + 1, s, by omega, by simp, by rw [HT.out.2.2.1], by rw [HT.out.2.2.2], HF⟩
          · simp only [intOf]
            omega
    · obtain ⟨hR1, hx2, hx3, hR4, hR5, hR6⟩ := HR.out
      rw [List.take_of_length_le (by have := HN.out; omega), HO.out] at hR5
      subst hR5
      obtain ⟨fe, fd, fD, fn, fc, fA, fm, fg, hfc⟩ := hR1.forms o.1 hR6
      rw [hfc] at hx3
      have s0 := scell hx3 0 (v := .int .i64 fe) rfl
      have s1 := scell hx3 1 (v := .int .i64 fd) rfl
      have s2 := scell hx3 2 (v := .slice fD fn fc) rfl
      have s3 := scell hx3 3 (v := .slice fA fm fg) rfl
      have r0 := scell hx2 0 (v := .int .i64 0) rfl
      have r1 := scell hx2 1 (v := .int .i64 0) rfl
      have r2 := scell hx2 2 (v := .slice none 0 0) rfl
      have r3 := scell hx2 3 (v := .slice none 0 0) rfl
      have fz := sfrz hx2
      have hX2 := heap_set_self (heap_set_self (heap_set_self (heap_set_self hx2 0 (.int .i64 fe)) 1 (.int .i64 fd)) 2 (.slice fD fn fc)) 3 (.slice fA fm fg)
      have hB2 := (((hR4.setCell (p := ⟨w.heap.size, 0, none⟩) (Nat.le_refl _) (.int .i64 fe)).setCell (p := ⟨w.heap.size, 1, none⟩) (Nat.le_refl _) (.int .i64 fd)).setCell (p := ⟨w.heap.size, 2, none⟩) (Nat.le_refl _) (.slice fD fn fc)).setCell (p := ⟨w.heap.size, 3, none⟩) (Nat.le_refl _) (.slice fA fm fg)
      have HF := Lib.hid (And.intro hX2 (And.intro hB2 hfc))
      clear hR1 hx2 hx3 hR4 hR6 HR hX2 hB2 hfc HO
      obtain ⟨sk, hsk⟩ : ∃ sk, sk = o.1.isSome := ⟨_, rfl⟩
      rw [← hsk]
      have HSK := Lib.hid hsk
      clear hsk
      go_wp2_with fail
      (try simp only [Exit.inBlock, Exit.then])
      generalize (((wr.setCell ⟨w.heap.size, 0, none⟩ (.int .i64 fe)).setCell ⟨w.heap.size, 1, none⟩ (.int .i64 fd)).setCell ⟨w.heap.size, 2, none⟩ (.slice fD fn fc)).setCell ⟨w.heap.size, 3, none⟩ (.slice fA fm fg) = wf at *
      obtain ⟨hX2, hB2, ecl⟩ := HF.out
      have r0 := scell hX2 0 (v := .int .i64 fe) rfl
      have r1 := scell hX2 1 (v := .int .i64 fd) rfl
      have r2 := scell hX2 2 (v := .slice fD fn fc) rfl
      have r3 := scell hX2 3 (v := .slice fA fm fg) rfl
      refine bodyPost_ret (v := .tuple #[.agg #[.int .i64 fe, .int .i64 fd, .slice fD fn fc, .slice fA fm fg], .bool sk]) (by simp [results, Try.results102, go_sem, r0, r1, r2, r3]) rfl ?_
      refine ⟨?_, hB2⟩
      rw [ecl, HSK.out]
end Go.Proofs.Ytadejhlljdcocaa
/-
  tarnref09.Merge.
-/

namespace Go.Proofs.Ytadejhlljdcocaa
open Go.RowKit
set_option linter.unusedVariables false
set_option linter.unusedSimpArgs false
set_option maxHeartbeats 400000 in
set_option maxRecDepth 100000 in
/-- tarnref09.Merge -/
theorem rmerge (l m : List HI) (hol : ∀ x ∈ l, Ok x) (hom : ∀ x ∈ m, Ok x) (w : World) (u v : Value) (hu : SR w u 3 l.length (hCells l)) (hv : SR w v 3 m.length (hCells m)) (hn : l.length + m.length ≤ 1000000) :
    Calls Try.prog 46 #[u, v] w fun e w' => ∃ v', e = .returned v' ∧ SR w' v' 3 (putAll [] (l ++ m)).length (hCells (putAll [] (l ++ m))) ∧ (∀ b, v'.ownBlock = some b → w.heap.size ≤ b ∧ b < w'.heap.size) ∧ Below w.heap.size w w' := by
  obtain ⟨i0, hi, hz0, hz1, hz2⟩ := info_parts info_held
  obtain ⟨a', cap', rfl, hlc', hcm'⟩ := hu.form
  obtain ⟨a, cap, rfl, hlc, hcm⟩ := hv.form
  unfold maxLen at hcm hcm'
  have HU := Lib.hid hu
  have HV := Lib.hid hv
  have HOL := Lib.hid hol
  have HOM := Lib.hid hom
  have hw1 := Below.alloc (Below.refl w.heap.size w) (Nat.le_refl _) (.cells #[] 125)
  have hw0 : (w.alloc (.cells #[] 125)).ownsRow w.heap.size 125 3 (.slice (some ⟨w.heap.size, 0, none⟩) 0 0) 0 [] := World.ownsRow_lit (base := w.heap.size) w #[] 0 (Nat.le_refl _) (by decide) rfl
  have HW0 := Lib.hid hw0
  have HW1 := Lib.hid hw1
  clear hv hol hom hu hw1 hw0
  go_enter Try.func46, Try.ntmps46
  go_wp2_with (at_builtin; refine wp_app Try.underlying81 hi hz0 hz1 hz2 rfl (by decide) rfl (.tmp 5) (.tmp 6) rfl w.heap.size _ 0 [] rfl HW0.out _ l.length (hCells l) rfl (HU.out.below HW1.out) ?c1 ?c2 ?c3 ?c4 ?_)
  case c1 => exact hCells_one l
  case c2 => unfold maxLen; omega
  case c3 => omega
  case c4 => exact HW1.out.size
  intro v' w2 hown hgr
  have HO2 := Lib.hid hown
  have HB2 := Lib.hid (below_app HW1.out hgr HW0.out (Nat.le_refl _) HW1.out.size)
  clear hown hgr
  go_wp2_with (at_builtin; refine wp_app Try.underlying81 hi hz0 hz1 hz2 rfl (by decide) rfl (.tmp 7) (.tmp 8) rfl w.heap.size _ _ _ rfl HO2.out _ m.length (hCells m) rfl (HV.out.below HB2.out) ?c1 ?c2 ?c3 ?c4 ?_)
  case c1 => exact hCells_one m
  case c2 => unfold maxLen; omega
  case c3 => omega
  case c4 => exact HB2.out.size
  intro v3 w3 hown hgr
  have hb3 := below_app HB2.out hgr HO2.out (Nat.le_refl _) HB2.out.size
  have HB3 := Lib.hid hb3
  have hlm : (l ++ m).length = l.length + m.length := List.length_append
  rw [← hCells_append, ← hlm] at hown
  obtain ⟨K, hK⟩ : ∃ K, (l ++ m).length = K := ⟨_, rfl⟩
  have hsr := SR.owns hown
  rw [hK] at hsr
  obtain ⟨a3, c3, rfl, -, -⟩ := hsr.form
  have cr := rof (l ++ m) (fun x hx => by rcases List.mem_append.1 hx with h | h; exact HOL.out x h; exact HOM.out x h) w3 _ (by rw [hK]; exact hsr)
  clear hown hgr hb3 hlm hK hsr
  go_wp2_with fail
  refine Calls.mono cr ?_
  rintro e w4 ⟨v4, rfl, hm4, hn4, hb4⟩
  have HM4 := Lib.hid hm4
  have HN4 := Lib.hid hn4
  have HB4 := Lib.hid (HB3.out.trans (hb4.mono HB3.out.size))
  clear hm4 hn4 hb4 cr
  go_wp2_with fail
  go_ret
  exact ⟨_, rfl, HM4.out, fun b e => ⟨Nat.le_trans HB3.out.size (HN4.out b e).1, (HN4.out b e).2⟩, HB4.out⟩
end Go.Proofs.Ytadejhlljdcocaa
