/-
  Several texts, laid together.
-/
import Derived.Test.YtgnnijpfkgmomaaGreatDoorMh5
import Derived.Test.YtgnnijpfkgmomaaGreatDoorRow
import Derived.Maps.AppendAt
import Derived.Deep.RegionLaw
import Derived.Shelf.Spec.SlicesInsertGrow
import Derived.Deep.RegionWith
import Derived.Test.YtgnnijpfkgmomaaGreatDoorBase
/-
  slices.Insert of one item, slices.Delete of one, at rows of pairs of the call's own.
-/





namespace Go.Proofs.YtgnnijpfkgmomaaGreatDoor
open Go.RowKit
set_option linter.unusedVariables false
set_option linter.unusedSimpArgs false

theorem info_pair : (Tryz.prog.info? 43).map (fun i => (i.zero, i.size, i.bytes)) = some (some (.agg #[.string ⟨#[]⟩, .string ⟨#[]⟩]), 2, 32) := by kernel_rfl
theorem size_pair : (Tryz.prog.info? 43).map (·.size) = some 2 := by kernel_rfl
theorem shift_cells {a b r x : List Value} {k : Nat} (hk : k = a.length) (hx : x.length = 2) (hr : 2 ≤ r.length) :
    let cur := a ++ b ++ r
    let cur1 := cur.take (k + 2) ++ b ++ cur.drop (k + 2 + b.length)
    cur1.take k ++ x ++ cur1.drop (k + x.length) = a ++ x ++ b ++ cur.drop (k + 2 + b.length) := by
  subst hk
  intro cur cur1
  have hl : (cur.take (a.length + 2)).length = a.length + 2 := by
    simp only [cur, List.length_take, List.length_append]; omega
  have h1 : cur1.take a.length = a := by
    simp only [cur1, List.append_assoc]
    rw [List.take_append_of_le_length (by omega), List.take_take, Nat.min_eq_left (by omega)]
    simp [cur]
  have h2 : cur1.drop (a.length + x.length) = b ++ cur.drop (a.length + 2 + b.length) := by
    simp only [cur1, List.append_assoc]
    rw [hx, List.drop_left' hl]
  rw [h1, h2, List.append_assoc, List.append_assoc, List.append_assoc]
theorem hcs_len (x : JP) : (pCells [x]).length = 2 := rfl
theorem pCells_put (A B : List JP) (x : JP) : pCells (A ++ x :: B) = pCells A ++ pCells [x] ++ pCells B := by
  rw [pCells_app]; simp [pCells]
/-- one item that was laid just now -/
def OneAt (w : World) (b : Nat) (x : JP) : Prop := w.heap[b]? = some (.cells #[.string x.k, .string x.v] 43)
theorem OneAt.cells {w : World} {b : Nat} {x : JP} (h : OneAt w b x) : ∀ j u, (pCells [x])[j]? = some u → w.cell? ((⟨b, 0, none⟩ : Addr).add j) = some u := by
  intro j u hj
  rw [add_off, Nat.zero_add]
  unfold OneAt at h
  match j, hj with
  | 0, hj => simpa [World.cell?, h, pCells, JP.c] using hj
  | 1, hj => simpa [World.cell?, h, pCells, JP.c] using hj
  | j + 2, hj => simp [pCells, JP.c] at hj
set_option maxHeartbeats 4000000 in
set_option maxRecDepth 100000 in
theorem insert_end (A : List JP) (x : JP) (w : World) (N : Nat) (v : Value) (hv : w.ownsRow N 43 2 v A.length (pCells A)) (vb : Nat) (hx : OneAt w vb x) (hl : A.length ≤ 1000000) (hN : N ≤ w.heap.size) :
    Calls Tryz.prog 78 #[v, .int .i64 A.length, .slice (some ⟨vb, 0, none⟩) 1 1] w fun e w' =>
      ∃ v', e = .returned v' ∧ w'.ownsRow N 43 2 v' (A.length + 1) (pCells (A ++ [x])) ∧ w.grownBy w' v.ownBlock ∧ NewRow w v v' := by
  obtain ⟨i0, hi, hz0, hz1, hz2⟩ := info_parts info_pair
  have hrun : ∀ ty, ∃ v' w', (Builtin.append_ #[30, 30] ty #[v, .slice (some ⟨vb, 0, none⟩) 1 1]).run Tryz.prog w = .ok v' w' ∧ w'.ownsRow N 43 2 v' (A.length + 1) (pCells (A ++ [x])) ∧ w.grownBy w' v.ownBlock ∧ NewRow w v v' := fun ty => by
    obtain ⟨v', w', h1, h2, h3, _, h5⟩ := run_append_own_at (P := Tryz.prog) w N 30 ty 43 i0 _ 2 32 Tryz.underlying30 hi hz0 hz1 hz2 rfl (by decide) v A.length (pCells A) hv ⟨vb, 0, none⟩ 1 1 (pCells [x]) rfl hx.cells (pCells_one _) (by unfold maxLen; omega) (by omega) hN
    refine ⟨v', w', h1, by rw [pCells_app]; exact h2, h3, ?_⟩
    rcases h5 with h5 | h5
    · exact .inl h5
    · exact .inr fun k e => by rw [h5] at e; cases e; exact Nat.le_refl _
  obtain ⟨a, cap, rfl, hlc, hcm⟩ := (SR.owns hv).form
  unfold maxLen at hcm
  clear hv hx hi hz0 hz1 hz2
  go_enter Tryz.func78, Tryz.ntmps78
  go_wp2_with (at_builtin; obtain ⟨v', w', h1, h2⟩ := hrun _; refine Lib.wpList_append_run _ rfl _ _ _ _ rfl _ _ rfl rfl _ _ h1 ?_)
  all_goals (first | (go_ret; exact ⟨_, rfl, h2⟩) | (subst h; go_ret; exact ⟨_, rfl, h2⟩))
theorem overlaps_apart (w : World) (g vb k : Nat) (cur : Array Value) (hg : w.heap[g]? = some (.cells cur 43 (0, 0))) (x : JP) (hx : OneAt w vb x) (hne : vb ≠ g) (hc : cur.size ≠ 0) (lb cb : Nat) :
    (callFunc 95 #[.slice (some ⟨vb, 0, none⟩) 1 1, .slice (some ⟨g, k, none⟩) lb cb]).run Tryz.prog w = .ok (.value (.bool false)) w := by
  have hsz : ∀ w, (Go.sizeOf 43).run Tryz.prog w = .ok 2 w := by
    intro w
    obtain ⟨i0, hi, hz0, hz1, hz2⟩ := info_parts info_pair
    simp [Go.sizeOf, typeInfo, hi, hz1]
  unfold OneAt at hx
  rw [run_callFunc_extern Tryz.func95 (by kernel_rfl) (by kernel_rfl) (by kernel_rfl) (e := Extern.SlicesOverlaps.overlaps #[30, 30] #[4]) (by kernel_rfl),
    Lib.run_overlaps_apart w 30 4 43 Tryz.underlying30 2 hsz ⟨vb, 0, none⟩ ⟨g, k, none⟩ 1 1 lb cb hne 43 43 2 cur.size (by simp [World.shape?, hx]) (by simp [World.shape?, hg]) hc (by simp [World.frozen?, hx]) (by simp [World.frozen?, hx])]
  rfl
theorem pCells_ne (B : List JP) (h : B ≠ []) : 0 < B.length := List.length_pos_iff.2 h
set_option maxHeartbeats 4000000 in
set_option maxRecDepth 100000 in
theorem insert_room (A B : List JP) (x : JP) (w : World) (g n cap : Nat) (cur : Array Value) (hn : n = A.length + B.length) (hg : w.heap[g]? = some (.cells cur 43 (0, 0))) (hB : 0 < B.length) (hroom : n + 1 ≤ cap) (hcm : cap ≤ maxLen)
    (hcs : cur.size = cap * 2) (ht : cur.toList.take (n * 2) = pCells (A ++ B)) (vb : Nat) (hx : OneAt w vb x) (hne : vb ≠ g) (hl : n ≤ 1000000) :
    Calls Tryz.prog 78 #[.slice (some ⟨g, 0, none⟩) n cap, .int .i64 A.length, .slice (some ⟨vb, 0, none⟩) 1 1] w fun e w' =>
      e = .returned (.slice (some ⟨g, 0, none⟩) (n + 1) cap) ∧ w.grownBy w' (some g) ∧ ∃ cur' : Array Value, w'.heap[g]? = some (.cells cur' 43 (0, 0)) ∧ cur'.size = cap * 2 ∧ cur'.toList.take ((n + 1) * 2) = pCells (A ++ x :: B) := by
  obtain ⟨i, hi⟩ : ∃ i, i = A.length := ⟨_, rfl⟩
  have hov := fun lb cb => overlaps_apart w g vb ((i + 1) * 2) cur hg x hx hne (by omega) lb cb
  -- the cells
  obtain ⟨R, hR⟩ : ∃ R, R = cur.toList.drop (n * 2) := ⟨_, rfl⟩
  have hcl : cur.toList = pCells A ++ pCells B ++ R := by rw [hR, ← pCells_app, ← ht, List.take_append_drop]
  have hRl : R.length = cap * 2 - n * 2 := by rw [hR, List.length_drop, Array.length_toList, hcs]
  have hAl : (pCells A).length = i * 2 := by rw [pCells_len, hi]
  have hBl : (pCells B).length = B.length * 2 := pCells_len B
  obtain ⟨C1, hC1⟩ : ∃ C1 : List Value, C1 = cur.toList.take ((i + 1) * 2) ++ pCells B ++ cur.toList.drop ((i + 1) * 2 + (pCells B).length) := ⟨_, rfl⟩
  have hC1l : C1.length = cap * 2 := by
    rw [hC1]; simp only [List.length_append, List.length_take, List.length_drop, Array.length_toList, hcs, hBl]; omega
  have hsh := shift_cells (a := pCells A) (b := pCells B) (r := R) (x := pCells [x]) (k := i * 2) hAl.symm (hcs_len x) (by omega)
  simp only [← hcl, show i * 2 + 2 = (i + 1) * 2 by omega] at hsh
  rw [← hC1] at hsh
  obtain ⟨C2, hC2⟩ : ∃ C2 : List Value, C2 = C1.take (i * 2) ++ pCells [x] ++ C1.drop (i * 2 + (pCells [x]).length) := ⟨_, rfl⟩
  rw [← hC2] at hsh
  have hC2l : C2.length = cap * 2 := by
    rw [hC2]; simp only [List.length_append, List.length_take, List.length_drop, hC1l, hcs_len]; omega
  have hcp1 : ∀ ty dc sc, (Builtin.copy_ #[30, 30] ty #[.slice (some ⟨g, (i + 1) * 2, none⟩) (n - i) dc, .slice (some ⟨g, i * 2, none⟩) (n + 1 - i) sc]).run Tryz.prog w.drew = .ok (goInt B.length) (w.drew.setRow g C1.toArray) := fun ty dc sc => by
    rw [hC1]
    refine run_copy_own w.drew _ _ ty 43 2 Tryz.underlying30 size_pair g ((i + 1) * 2) (n - i) dc 43 cur hg ⟨g, i * 2, none⟩ (n + 1 - i) sc (pCells B) B.length ?_ hBl ?_ ?_ (pCells_one _)
    · simp only [Nat.min_def]; split <;> omega
    · intro j u hj
      rw [add_off]
      have hjl := (List.getElem?_eq_some_iff.1 hj).1
      show w.cell? _ = _
      have h2 : cur.toList[i * 2 + j]? = some u := by
        rw [hcl, List.append_assoc, List.getElem?_append_right (by omega), hAl, Nat.add_sub_cancel_left, List.getElem?_append_left hjl, hj]
      simpa [World.cell?, hg] using h2
    · rw [hcs, hBl]; omega
  have hg1 : (w.drew.setRow g C1.toArray).heap[g]? = some (.cells C1.toArray 43 (0, 0)) := setRow_heap w.drew g cur _ _ _ hg
  obtain ⟨W1, hW1⟩ : ∃ W1, W1 = w.drew.setRow g C1.toArray := ⟨_, rfl⟩
  rw [← hW1] at hcp1 hg1
  have hgr1 : w.grownBy W1 (some g) := by rw [hW1]; exact grown_setRow (World.grownBy.refl w _) (.inl rfl) _ |> fun h => ⟨h.os, h.tape, h.output, h.size, h.block⟩
  have hx1 : OneAt W1 vb x := (hgr1.block vb (lt_heap hx) (by simpa using hne)).trans hx
  have hcp2 : ∀ (W : World), W.heap = W1.heap → ∀ ty dc, (Builtin.copy_ #[30, 30] ty #[.slice (some ⟨g, i * 2, none⟩) (n + 1 - i) dc, .slice (some ⟨vb, 0, none⟩) 1 1]).run Tryz.prog W = .ok (goInt 1) (W.setRow g C2.toArray) := fun W hW ty dc => by
    rw [hC2]
    have := run_copy_own (P := Tryz.prog) W 30 30 ty 43 2 Tryz.underlying30 size_pair g (i * 2) (n + 1 - i) dc 43 C1.toArray (by rw [hW]; exact hg1) ⟨vb, 0, none⟩ 1 1 (pCells [x]) 1 (by simp only [Nat.min_def]; split <;> omega) (hcs_len x) (fun j u hj => by have := hx1.cells j u hj; simpa [World.cell?, hW] using this) (by simp only [List.size_toArray, hC1l, hcs_len]; omega) (pCells_one _)
    simpa using this
  have hfin : ∀ W : World, W.heap = W1.heap → W.os = W1.os → W.tape = W1.tape → W.output = W1.output → w.grownBy (W.setRow g C2.toArray) (some g) ∧ ∃ cur' : Array Value, (W.setRow g C2.toArray).heap[g]? = some (.cells cur' 43 (0, 0)) ∧ cur'.size = cap * 2 ∧ cur'.toList.take ((n + 1) * 2) = pCells (A ++ x :: B) := fun W h1 h2 h3 h4 => by
    refine ⟨grown_setRow ⟨h2.trans hgr1.os, h3.trans hgr1.tape, h4.trans hgr1.output, by rw [h1]; exact hgr1.size, fun k hk hr => by rw [h1]; exact hgr1.block k hk hr⟩ (.inl rfl) _, C2.toArray, setRow_heap W g _ _ _ _ (by rw [h1]; exact hg1), by simpa using hC2l, ?_⟩
    show C2.take _ = _
    rw [hsh, pCells_put, List.take_left' (by simp only [List.length_append, hAl, hBl, hcs_len]; omega)]
  have HF := Lib.hid hfin
  have hz1 : ¬ ((i : Int) = (n : Int)) := by omega
  have hw1 : IntKind.i64.wrap ((i : Int) + 1) = (i : Int) + 1 := by rw [IntKind.wrap_i64]; omega
  have hw2 : IntKind.i64.wrap ((n : Int) + 1) = (n : Int) + 1 := by rw [IntKind.wrap_i64]; omega
  have htn : ((i : Int) + 1).toNat = i + 1 := by omega
  have htn2 : ((n : Int) + 1).toNat = n + 1 := by omega
  have hin : i ≤ n := by omega
  have hb1 : (0 : Int) ≤ (i : Int) + 1 := by omega
  have hb3 : (i : Int) ≤ (n : Int) + 1 := by omega
  have hb2 : ¬ (cap = i + 1) := by omega
  have hb4 : ¬ (cap = i) := by omega
  unfold maxLen at hcm
  clear hfin hsh hC2 hC1 hg1 hgr1 hx1 hcl hR hRl hAl hBl hC1l hC2l ht hcs hg hx
  rw [← hi]
  have hlt : i < n := by omega
  have hnc : n ≤ cap := by omega
  have mixed : Tryz.prog.follows Departure.mixedOrders = true := by kernel_rfl
  clear hi hn
  go_enter Tryz.func78, Tryz.ntmps78
  go_wp2_with (simp only [hov])
  go_region_law_o (refine step_copy_runI rfl _ _ 30 30 rfl _ _ (by simp [Act.eval, Act.put]) (by simp [Act.eval, Act.put]) (hcp1 _ _ _) ?_)
  go_wp2_with (at_builtin; refine wpList_copy_runI _ rfl _ _ 30 30 rfl _ _ rfl rfl (hcp2 _ rfl _ _) ?_)
  go_ret
  exact ⟨rfl, HF.out _ (by rw [hW1]) (by rw [hW1]) (by rw [hW1]) (by rw [hW1])⟩
theorem zero_cells (k : Nat) : (Builtin.zeroCells (Value.agg #[.string ⟨#[]⟩, .string ⟨#[]⟩]).cells k).size = k * 2 := by simp [Builtin.zeroCells, Value.cells]
set_option maxHeartbeats 4000000 in
set_option maxRecDepth 100000 in
theorem insert_grow (A B : List JP) (x : JP) (w : World) (N : Nat) (g n cap : Nat) (cur : Array Value) (hn : n = A.length + B.length) (hg : w.heap[g]? = some (.cells cur 43 (0, 0))) (hB : 0 < B.length) (hnc : n ≤ cap) (hroom : cap < n + 1) (hcm : cap ≤ maxLen)
    (hcs : cur.size = cap * 2) (ht : cur.toList.take (n * 2) = pCells (A ++ B)) (vb : Nat) (hx : OneAt w vb x) (hl : n ≤ 1000000) (hN : N ≤ w.heap.size) :
    Calls Tryz.prog 78 #[.slice (some ⟨g, 0, none⟩) n cap, .int .i64 A.length, .slice (some ⟨vb, 0, none⟩) 1 1] w fun e w' =>
      ∃ v', e = .returned v' ∧ w'.ownsRow N 43 2 v' (n + 1) (pCells (A ++ x :: B)) ∧ w.grownBy w' none ∧ v'.ownBlock = some w.heap.size := by
  obtain ⟨i0, hi0, hz0, hz1, hz2⟩ := info_parts info_pair
  obtain ⟨i, hi⟩ : ∃ i, i = A.length := ⟨_, rfl⟩
  have hAl : (pCells A).length = i * 2 := by rw [pCells_len, hi]
  have hBl : (pCells B).length = B.length * 2 := pCells_len B
  obtain ⟨R, hR⟩ : ∃ R, R = cur.toList.drop (n * 2) := ⟨_, rfl⟩
  have hcl : cur.toList = pCells A ++ pCells B ++ R := by rw [hR, ← pCells_app, ← ht, List.take_append_drop]
  have hread : ∀ (j : Nat) u, (pCells A ++ pCells B)[j]? = some u → w.cell? ⟨g, j, none⟩ = some u := fun j u hj => by
    have h2 : cur.toList[j]? = some u := by rw [hcl, List.getElem?_append_left (List.getElem?_eq_some_iff.1 hj).1, hj]
    simpa [World.cell?, hg] using h2
  obtain ⟨G, hG⟩ : ∃ G, G = grownCap w (n + 1) cap 43 := ⟨_, rfl⟩
  have hGn : n + 1 ≤ G := by rw [hG]; exact grownCap_ge w _ _ _
  have hGm : G ≤ maxLen := by rw [hG]; exact grownCap_le_maxLen w _ _ _ (by unfold maxLen; omega)
  obtain ⟨ROW, hROW⟩ : ∃ ROW : Array Value, ROW = (pCells A).toArray ++ Builtin.zeroCells (Value.agg #[.string ⟨#[]⟩, .string ⟨#[]⟩]).cells (n + 1 - i) ++ Builtin.zeroCells (Value.agg #[.string ⟨#[]⟩, .string ⟨#[]⟩]).cells (G - (n + 1)) := ⟨_, rfl⟩
  have hRs : ROW.size = G * 2 := by
    rw [hROW]; simp only [Array.size_append, List.size_toArray, zero_cells, hAl]; omega
  have hRt : ROW.toList.take (i * 2) = pCells A := by
    rw [hROW]
    simp only [Array.toList_append, List.append_assoc]
    exact List.take_left' hAl
  have hold : (Builtin.firstCells i0.size i (.slice (some ⟨g, 0, none⟩) i cap)).run Tryz.prog w.drew = .ok (pCells A).toArray w.drew := by
    rw [hz1]
    exact run_firstCells_some w.drew 2 i ⟨g, 0, none⟩ i cap (pCells A) hAl (fun j u hj => by
      rw [add_off, Nat.zero_add]
      exact hread j u (by rw [List.getElem?_append_left (List.getElem?_eq_some_iff.1 hj).1, hj]))
  have hrz : ∀ ty, (Builtin.append_ #[30, 3] ty #[.slice (some ⟨g, 0, none⟩) i cap, .int .i64 ((n : Int) + 1 - (i : Int))]).run Tryz.prog w =
      .ok (.slice (some ⟨w.heap.size, 0, none⟩) (n + 1) G) (w.drew.alloc (.cells ROW 43)) := fun ty => by
    have h := Lib.run_append_grow_zeros (P := Tryz.prog) w 30 3 ty 43 i0 _ .i64 .i64 Tryz.underlying30 Tryz.underlying3 hi0 hz0 (some ⟨g, 0, none⟩) i cap (pCells A) hold (n + 1 - i) (by omega) (by rw [hz1]; decide) (by omega) (by omega) (by rw [hz2]; omega) (by rw [hz2, show i + (n + 1 - i) = n + 1 by omega]; exact growslice_fits hroom (by omega))
    rw [show i + (n + 1 - i) = n + 1 by omega, ← hG, ← hROW] at h
    rw [show (n : Int) + 1 - (i : Int) = ((n + 1 - i : Nat) : Int) by omega]
    exact h
  obtain ⟨W1, hW1⟩ : ∃ W1, W1 = w.drew.alloc (.cells ROW 43) := ⟨_, rfl⟩
  rw [← hW1] at hrz
  obtain ⟨S, hS⟩ : ∃ S, S = w.heap.size := ⟨_, rfl⟩
  rw [← hS] at hrz
  have hgS : g < S := by rw [hS]; exact lt_heap hg
  have hvS : vb < S := by rw [hS]; exact lt_heap hx
  have hg1 : W1.heap[S]? = some (.cells ROW 43 (0, 0)) := by rw [hW1, hS]; exact heap_alloc_self w.drew _
  have hk1 : ∀ k, k < S → W1.heap[k]? = w.heap[k]? := fun k hk => by rw [hW1]; exact Below.heap_alloc w.drew _ k (by show k < w.heap.size; omega)
  have hr1 : ∀ (j : Nat) u, (pCells A ++ pCells B)[j]? = some u → W1.cell? ⟨g, j, none⟩ = some u := fun j u hj => by
    have := hread j u hj
    simp only [World.cell?] at this ⊢
    rw [hk1 g hgS]; exact this
  have hx1 : OneAt W1 vb x := (hk1 vb hvS).trans hx
  obtain ⟨C1, hC1⟩ : ∃ C1 : List Value, C1 = ROW.toList.take (i * 2) ++ pCells [x] ++ ROW.toList.drop (i * 2 + (pCells [x]).length) := ⟨_, rfl⟩
  have hC1l : C1.length = G * 2 := by
    rw [hC1]; simp only [List.length_append, List.length_take, List.length_drop, Array.length_toList, hRs, hcs_len]; omega
  have hcpA : ∀ (W : World), W.heap = W1.heap → ∀ ty dc, (Builtin.copy_ #[30, 30] ty #[.slice (some ⟨S, i * 2, none⟩) (n + 1 - i) dc, .slice (some ⟨vb, 0, none⟩) 1 1]).run Tryz.prog W = .ok (goInt 1) (W.setRow S C1.toArray) := fun W hW ty dc => by
    rw [hC1]
    exact run_copy_own (P := Tryz.prog) W 30 30 ty 43 2 Tryz.underlying30 size_pair S (i * 2) (n + 1 - i) dc 43 ROW (by rw [hW]; exact hg1) ⟨vb, 0, none⟩ 1 1 (pCells [x]) 1 (by simp only [Nat.min_def]; split <;> omega) (hcs_len x) (fun j u hj => by have := hx1.cells j u hj; simpa [World.cell?, hW] using this) (by simp only [hRs, hcs_len]; omega) (pCells_one _)
  obtain ⟨C2, hC2⟩ : ∃ C2 : List Value, C2 = C1.take ((i + 1) * 2) ++ pCells B ++ C1.drop ((i + 1) * 2 + (pCells B).length) := ⟨_, rfl⟩
  have hC2l : C2.length = G * 2 := by
    rw [hC2]; simp only [List.length_append, List.length_take, List.length_drop, hC1l, hBl]; omega
  have hcpB : ∀ (W : World), W.heap = (W1.setRow S C1.toArray).heap → ∀ ty dc sc, (Builtin.copy_ #[30, 30] ty #[.slice (some ⟨S, (i + 1) * 2, none⟩) (n - i) dc, .slice (some ⟨g, i * 2, none⟩) (n - i) sc]).run Tryz.prog W = .ok (goInt B.length) (W.setRow S C2.toArray) := fun W hW ty dc sc => by
    rw [hC2]
    have := run_copy_own (P := Tryz.prog) W 30 30 ty 43 2 Tryz.underlying30 size_pair S ((i + 1) * 2) (n - i) dc 43 C1.toArray (by rw [hW]; exact setRow_heap W1 S ROW _ _ _ hg1) ⟨g, i * 2, none⟩ (n - i) sc (pCells B) B.length (by simp only [Nat.min_def]; split <;> omega) hBl (fun j u hj => by
      rw [add_off]
      have h3 := hr1 (i * 2 + j) u (by rw [List.getElem?_append_right (by omega), hAl, Nat.add_sub_cancel_left, hj])
      simp only [World.cell?] at h3 ⊢
      rw [hW, setRow_other _ _ _ _ (show g ≠ S by omega)]
      exact h3) (by simp only [List.size_toArray, hC1l, hBl]; omega) (pCells_one _)
    simpa using this
  have hT1 : C1.take ((i + 1) * 2) = pCells A ++ pCells [x] := by
    rw [hC1, hRt]
    exact List.take_left' (by simp only [List.length_append, hAl, hcs_len]; omega)
  have hfin : ∀ W : World, W.heap = (W1.setRow S C1.toArray).heap → W.os = w.os → W.tape = w.tape → W.output = w.output → (W.setRow S C2.toArray).ownsRow N 43 2 (.slice (some ⟨S, 0, none⟩) (n + 1) G) (n + 1) (pCells (A ++ x :: B)) ∧ w.grownBy (W.setRow S C2.toArray) none := fun W h1 h2 h3 h4 => by
    refine ⟨own_of (by omega) (setRow_heap W S C1.toArray _ 43 (0, 0) (by rw [h1]; exact setRow_heap W1 S ROW _ _ _ hg1)) (by omega) hGm (by simpa using hC2l) (by rw [pCells_len]; simp; omega) ?_, ⟨h2, h3, h4, ?_, fun k hk _ => ?_⟩⟩
    · show C2.take _ = _
      rw [hC2, hT1, pCells_put]
      exact List.take_left' (by simp only [List.length_append, hAl, hBl, hcs_len]; omega)
    · rw [heap_size_setRow, h1, heap_size_setRow, hW1]; simp
    · rw [setRow_other _ _ _ _ (by omega), h1, setRow_other _ _ _ _ (by omega), hk1 k (by omega)]
  have HF := Lib.hid hfin
  have HS := Lib.hid hS
  have hz1' : ¬ ((i : Int) = (n : Int)) := by omega
  have hw1 : IntKind.i64.wrap ((i : Int) + 1) = (i : Int) + 1 := by rw [IntKind.wrap_i64]; omega
  have hw2 : IntKind.i64.wrap ((n : Int) + 1) = (n : Int) + 1 := by rw [IntKind.wrap_i64]; omega
  have hw3 : IntKind.i64.wrap ((n : Int) + 1 - (i : Int)) = (n : Int) + 1 - (i : Int) := by rw [IntKind.wrap_i64]; omega
  have htn : ((i : Int) + 1).toNat = i + 1 := by omega
  have htn2 : ((n : Int) + 1).toNat = n + 1 := by omega
  have hin : i ≤ n := by omega
  have hlt : i < n := by omega
  have hb1 : (0 : Int) ≤ (i : Int) + 1 := by omega
  have hb3 : (i : Int) ≤ (n : Int) + 1 := by omega
  have hb5 : (cap : Int) < (n : Int) + 1 := by omega
  have hb6 : (i : Int) ≤ (n : Int) := by omega
  have hci : ¬ (cap = i) := by omega
  have hGi : ¬ (G = i) := by omega
  have hGim : ¬ (G = i + 1) := by omega
  have mixed : Tryz.prog.follows Departure.mixedOrders = true := by kernel_rfl
  unfold maxLen at hcm hGm
  rw [← hi]
  rw [← hS]
  have HW1 := Lib.hid hW1
  clear hW1 hS hfin hi hn hT1 hC2 hC1 hg1 hx1 hr1 hk1 hcl hR hAl hBl hC1l hC2l ht hcs hg hx hRs hRt hROW hold hread hG
  go_enter Tryz.func78, Tryz.ntmps78
  go_wp2_with (first
    | (at_builtin; refine Lib.wpList_append_run _ rfl _ _ _ _ rfl _ _ rfl rfl _ _ (hrz _) ?_)
    | (at_builtin; refine wpList_copy_runI _ rfl _ _ 30 30 rfl _ _ rfl rfl (hcpA _ rfl _ _) ?_))
  go_region_law_o (refine step_copy_runI rfl _ _ 30 30 rfl (.slice (some ⟨S, (i + 1) * 2, none⟩) (n - i) (G - (i + 1))) (.slice (some ⟨g, i * 2, none⟩) (n - i) (cap - i)) (by simp [Act.eval, Act.put]) (by simp [Act.eval, Act.put]) (hcpB (W1.setRow S C1.toArray).drew rfl _ _ _) ?_)
  go_wp2
  go_ret
  have HQ := HF.out (W1.setRow S C1.toArray).drew rfl (by rw [HW1.out]; rfl) (by rw [HW1.out]; rfl) (by rw [HW1.out]; rfl)
  exact ⟨_, rfl, HQ.1, HQ.2, rfl⟩
section
variable {P : Program}
/-- an append whose run is known, as one step of a region that draws -/
theorem step_append_run {ops : Array Oper} {o : Oper} {a : Act} {w : World} {K : Act → World → Prop} {Q : Exit → Act → World → Prop} {E : Prop}
    (hg : o.guard = none) (s x : Operand) (t tn : TypeId) (hop : o.op = Op.call { callee := Callee.builtin Builtin.append, args := #[s, x], argTypes := #[t, tn] })
    (v u : Value) (hd : a.eval s = v) (hx : a.eval x = u) {v' : Value} {w' : World} (hr : (Builtin.append_ #[t, tn] o.type #[v, u]).run P w = .ok v' w') (hK : K (a.put o.dst v') w') :
    if Region.wanted o (yielded ops a.tmps) = true then Oper.wp P o a w K Q else E := by
  have hw : Region.wanted o (yielded ops a.tmps) = true := by simp [Region.wanted, hg]
  rw [if_pos hw]
  unfold Oper.wp
  simp [execOp, hop, resolve, invoke, builtin, hd, hx, hr, Result.andThen]
  exact hK
end
set_option maxHeartbeats 4000000 in
set_option maxRecDepth 100000 in
theorem delete_any (A B : List JP) (y : JP) (w : World) (g n cap : Nat) (cur : Array Value) (hn : n = A.length + 1 + B.length) (hg : w.heap[g]? = some (.cells cur 43 (0, 0))) (hroom : n ≤ cap) (hcm : cap ≤ maxLen)
    (hcs : cur.size = cap * 2) (ht : cur.toList.take (n * 2) = pCells (A ++ y :: B)) (hl : n ≤ 1000000) :
    Calls Tryz.prog 63 #[.slice (some ⟨g, 0, none⟩) n cap, .int .i64 A.length, .int .i64 ((A.length : Int) + 1)] w fun e w' =>
      e = .returned (.slice (some ⟨g, 0, none⟩) (n - 1) cap) ∧ w.grownBy w' (some g) ∧ ∃ cur' : Array Value, w'.heap[g]? = some (.cells cur' 43 (0, 0)) ∧ cur'.size = cap * 2 ∧ cur'.toList.take ((n - 1) * 2) = pCells (A ++ B) := by
  obtain ⟨i0, hi0, hz0, hz1, hz2⟩ := info_parts info_pair
  obtain ⟨i, hi⟩ : ∃ i, i = A.length := ⟨_, rfl⟩
  obtain ⟨R, hR⟩ : ∃ R, R = cur.toList.drop (n * 2) := ⟨_, rfl⟩
  have hcl : cur.toList = pCells A ++ pCells [y] ++ pCells B ++ R := by rw [hR, ← pCells_put, ← ht, List.take_append_drop]
  have hAl : (pCells A).length = i * 2 := by rw [pCells_len, hi]
  have hBl : (pCells B).length = B.length * 2 := pCells_len B
  obtain ⟨C1, hC1⟩ : ∃ C1 : List Value, C1 = cur.toList.take (i * 2) ++ pCells B ++ cur.toList.drop (i * 2 + (pCells B).length) := ⟨_, rfl⟩
  have hC1l : C1.length = cap * 2 := by
    rw [hC1]; simp only [List.length_append, List.length_take, List.length_drop, Array.length_toList, hcs, hBl]; omega
  have hT1 : C1.take ((n - 1) * 2) = pCells (A ++ B) := by
    rw [hC1, pCells_app]
    have h0 : cur.toList.take (i * 2) = pCells A := by rw [hcl]; simp only [List.append_assoc]; exact List.take_left' hAl
    rw [h0]
    exact List.take_left' (by simp only [List.length_append, hAl, hBl]; omega)
  obtain ⟨Ad, hA, hsrc⟩ : ∃ Ad : Addr, (if cap = i + 1 then some (⟨g, 0, none⟩ : Addr) else some ⟨g, (i + 1) * 2, none⟩) = some Ad ∧ ∀ (j : Nat) u, (pCells B)[j]? = some u → w.drew.cell? (Ad.add j) = some u := by
    by_cases h : cap = i + 1
    · refine ⟨_, if_pos h, fun j u hj => ?_⟩
      have : B = [] := List.eq_nil_of_length_eq_zero (by omega)
      subst this
      simp [pCells] at hj
    · refine ⟨_, if_neg h, fun j u hj => ?_⟩
      rw [add_off]
      have hjl := (List.getElem?_eq_some_iff.1 hj).1
      have h2 : cur.toList[(i + 1) * 2 + j]? = some u := by
        have h3 : (pCells A ++ pCells [y]).length = (i + 1) * 2 := by rw [List.length_append, hAl, hcs_len]; omega
        rw [hcl, List.append_assoc, List.getElem?_append_right (by omega), h3, Nat.add_sub_cancel_left, List.getElem?_append_left hjl, hj]
      show w.cell? _ = _
      simpa [World.cell?, hg] using h2
  have hap : ∀ ty sc, (Builtin.append_ #[30, 30] ty #[.slice (some ⟨g, 0, none⟩) i cap, .slice (some Ad) (n - (i + 1)) sc]).run Tryz.prog w.drew = .ok (.slice (some ⟨g, 0, none⟩) (n - 1) cap) (w.drew.setRow g C1.toArray) := fun ty sc => by
    have h := run_append_room (P := Tryz.prog) w.drew 30 ty 43 i0 Tryz.underlying30 hi0 g i cap cur hg Ad (n - (i + 1)) sc (pCells B) (by rw [hz1, hBl]; omega) hsrc (pCells_one _) (by omega) (by rw [hz1, hBl, hcs]; omega)
    rw [hz1, show i + (n - (i + 1)) = n - 1 by omega, ← hC1] at h
    exact h
  obtain ⟨W1, hW1⟩ : ∃ W1, W1 = w.drew.setRow g C1.toArray := ⟨_, rfl⟩
  have hg1 : W1.heap[g]? = some (.cells C1.toArray 43 (0, 0)) := by rw [hW1]; exact setRow_heap w.drew g cur _ _ _ hg
  have hgr1 : w.grownBy W1 (some g) := by rw [hW1]; exact grown_setRow (World.grownBy.refl w _) (.inl rfl) _ |> fun h => ⟨h.os, h.tape, h.output, h.size, h.block⟩
  rw [← hW1] at hap
  obtain ⟨C2, hC2⟩ : ∃ C2 : List Value, C2 = C1.take ((n - 1) * 2) ++ pCells [⟨⟨#[]⟩, ⟨#[]⟩⟩] ++ C1.drop ((n - 1) * 2 + (pCells [⟨⟨#[]⟩, ⟨#[]⟩⟩]).length) := ⟨_, rfl⟩
  have hzv : ∀ w, (zeroValue 43).run Tryz.prog w = .ok (.agg #[.string ⟨#[]⟩, .string ⟨#[]⟩]) w := fun w => by
    simp [zeroValue, typeInfo, hi0, hz0]
  have hcr : ∀ ty c, (Builtin.clear_ #[30] ty #[.slice (some ⟨g, (n - 1) * 2, none⟩) (n - (n - 1)) c]).run Tryz.prog W1 = .ok (.tuple #[]) (W1.setRow g C2.toArray) := fun ty c => by
    have h := run_clear_own (P := Tryz.prog) W1 30 43 ty _ Tryz.underlying30 hzv g ((n - 1) * 2) (n - (n - 1)) c (by omega) 43 C1.toArray hg1 (pCells [⟨⟨#[]⟩, ⟨#[]⟩⟩]) (by rw [show n - (n - 1) = 1 by omega]; kernel_rfl) (by simp only [List.size_toArray, hC1l, hcs_len]; omega) (pCells_one _)
    rw [hC2]
    simpa using h
  have hcr' : ∀ ty c, (Builtin.clear_ #[30] ty #[.slice (some ⟨g, (n - 1) * 2, none⟩) 1 c]).run Tryz.prog W1 = .ok (.tuple #[]) (W1.setRow g C2.toArray) := fun ty c => by have := hcr ty c; rwa [show n - (n - 1) = 1 by omega] at this
  have hfin : w.grownBy (W1.setRow g C2.toArray) (some g) ∧ ∃ cur' : Array Value, (W1.setRow g C2.toArray).heap[g]? = some (.cells cur' 43 (0, 0)) ∧ cur'.size = cap * 2 ∧ cur'.toList.take ((n - 1) * 2) = pCells (A ++ B) := by
    refine ⟨grown_setRow hgr1 (.inl rfl) _, C2.toArray, setRow_heap W1 g _ _ _ _ hg1, ?_, ?_⟩
    · simp only [List.size_toArray, hC2, List.length_append, List.length_take, List.length_drop, hC1l, hcs_len]; omega
    · show C2.take _ = _
      rw [hC2, hT1]
      simp only [List.append_assoc]
      exact List.take_left' (by rw [pCells_len, List.length_append]; omega)
  have HF := Lib.hid hfin
  have HAP := Lib.hid hap
  have hlt : i < n := by omega
  have hin : i ≤ n := by omega
  have hi1 : (i : Int) + 1 ≤ (n : Int) := by omega
  have hic : i ≤ cap := by omega
  have hjc : i + 1 ≤ cap := by omega
  have hnn : n - 1 ≤ n := by omega
  have hnc1 : ¬ (cap = n - 1) := by omega
  have htn : ((i : Int) + 1).toNat = i + 1 := by omega
  have hb1 : (0 : Int) ≤ (i : Int) + 1 := by omega
  have hb7 : ¬ ((i : Int) = (i : Int) + 1) := by omega
  have hjc2 : (i : Int) + 1 ≤ (cap : Int) := by omega
  have hn1 : ((n - 1 : Nat) : Int) ≤ (n : Int) := by omega
  have mixed : Tryz.prog.follows Departure.mixedOrders = true := by kernel_rfl
  unfold maxLen at hcm
  rw [← hi]
  clear hfin hi hn hT1 hC2 hC1 hg1 hgr1 hcl hR hAl hBl hC1l ht hcs hg hW1 hsrc hap hzv
  go_enter Tryz.func63, Tryz.ntmps63
  go_wp2_with fail
  go_region_law_o (refine step_append_run rfl _ _ 30 30 rfl (.slice (some ⟨g, 0, none⟩) i cap) (.slice (some Ad) (n - (i + 1)) (cap - (i + 1))) (by simp [Act.eval, Act.put]) (by simp [Act.eval, Act.put]) (HAP.out _ _) ?_)
  go_wp2
  go_ret
  exact ⟨rfl, HF.out⟩
theorem insert_any (A B : List JP) (x : JP) (w : World) (N : Nat) (v : Value) (hv : w.ownsRow N 43 2 v (A ++ B).length (pCells (A ++ B))) (vb : Nat) (hx : OneAt w vb x) (hne : v.ownBlock ≠ some vb) (hl : (A ++ B).length ≤ 1000000) (hN : N ≤ w.heap.size) :
    Calls Tryz.prog 78 #[v, .int .i64 A.length, .slice (some ⟨vb, 0, none⟩) 1 1] w fun e w' =>
      ∃ v', e = .returned v' ∧ w'.ownsRow N 43 2 v' (A ++ x :: B).length (pCells (A ++ x :: B)) ∧ w.grownBy w' v.ownBlock ∧ NewRow w v v' := by
  have hlen : (A ++ x :: B).length = (A ++ B).length + 1 := by simp; omega
  rw [hlen]
  by_cases hB : B = []
  · subst hB
    rw [List.append_nil] at hv hl ⊢
    exact insert_end A x w N v hv vb hx hl hN
  · have hBl := pCells_ne B hB
    have hn : (A ++ B).length = A.length + B.length := List.length_append
    rcases hv.2 with ⟨rfl, h0⟩ | ⟨g, cap, cur, rfl, hg, hgc, hnc, hcm, hcs, ht⟩
    · omega
    · have hvg : vb ≠ g := fun e => hne (by rw [e]; rfl)
      by_cases hroom : (A ++ B).length + 1 ≤ cap
      · refine (insert_room A B x w g _ cap cur hn hgc hBl hroom hcm hcs ht vb hx hvg hl).mono ?_
        rintro e w' ⟨rfl, hgr, cur', h1, h2, h3⟩
        exact ⟨_, rfl, own_of hg h1 hroom hcm h2 (by rw [pCells_len, hlen]) h3, hgr, .inl rfl⟩
      · refine (insert_grow A B x w N g _ cap cur hn hgc hBl hnc (by omega) hcm hcs ht vb hx hl hN).mono ?_
        rintro e w' ⟨v', rfl, h1, h2, h3⟩
        exact ⟨_, rfl, h1, ⟨h2.os, h2.tape, h2.output, h2.size, fun k hk hr => h2.block k hk (by simp)⟩, .inr fun k e => by rw [h3] at e; cases e; exact Nat.le_refl _⟩
theorem delete_own (A B : List JP) (y : JP) (w : World) (N : Nat) (v : Value) (hv : w.ownsRow N 43 2 v (A ++ y :: B).length (pCells (A ++ y :: B))) (hl : (A ++ y :: B).length ≤ 1000000) :
    Calls Tryz.prog 63 #[v, .int .i64 A.length, .int .i64 ((A.length : Int) + 1)] w fun e w' =>
      ∃ v', e = .returned v' ∧ w'.ownsRow N 43 2 v' (A ++ B).length (pCells (A ++ B)) ∧ w.grownBy w' v.ownBlock ∧ NewRow w v v' := by
  have hlen : (A ++ y :: B).length = A.length + 1 + B.length := by simp; omega
  have hlen2 : (A ++ y :: B).length - 1 = (A ++ B).length := by simp
  rcases hv.2 with ⟨rfl, h0⟩ | ⟨g, cap, cur, rfl, hg, hgc, hnc, hcm, hcs, ht⟩
  · omega
  · refine (delete_any A B y w g _ cap cur hlen hgc hnc hcm hcs ht hl).mono ?_
    rintro e w' ⟨rfl, hgr, cur', h1, h2, h3⟩
    rw [hlen2] at h3 ⊢
    exact ⟨_, rfl, own_of hg h1 (by omega) hcm h2 (pCells_len _) h3, hgr, .inl rfl⟩
end Go.Proofs.YtgnnijpfkgmomaaGreatDoor
/-
  journal: cut and set, in memory.
-/


namespace Go.Proofs.YtgnnijpfkgmomaaGreatDoor
open Go.RowKit
set_option linter.unusedVariables false
set_option linter.unusedSimpArgs false

/-- the journal's own parts in memory: its object at p, its row of pairs, all from N on -/
def JM (w : World) (N p : Nat) (dv pv : Value) (sz : Int) (lv : Value) (now used told : Int) (l : List JP) : Prop :=
  N ≤ p ∧ w.heap[p]? = some (.cells (jC dv pv sz lv now used told) 64) ∧ w.ownsRow N 43 2 pv l.length (pCells l)
theorem JM.below {w w' : World} {N p : Nat} {dv pv lv : Value} {sz now used told : Int} {l : List JP} (h : JM w N p dv pv sz lv now used told l) (hb : Below w.heap.size w w') : JM w' N p dv pv sz lv now used told l :=
  ⟨h.1, below_at hb (lt_heap h.2.1) h.2.1, owns_below h.2.2 hb⟩
theorem JM.drew {w : World} {N p : Nat} {dv pv lv : Value} {sz now used told : Int} {l : List JP} (h : JM w N p dv pv sz lv now used told l) : JM w.drew N p dv pv sz lv now used told l := h
theorem jm_ne {w : World} {N p : Nat} {dv pv lv : Value} {sz now used told : Int} {l : List JP} (h : JM w N p dv pv sz lv now used told l) : pv.ownBlock ≠ some p := own_size h.2.2 h.2.1 (by decide)
/-- the row has been changed, and is laid into the object -/
theorem jm_put {w w1 : World} {N p : Nat} {dv pv v' lv : Value} {sz now used told : Int} {l m : List JP} (h : JM w N p dv pv sz lv now used told l) (hg : w.grownBy w1 pv.ownBlock) (hr : w1.ownsRow N 43 2 v' m.length (pCells m)) (hn : NewRow w pv v') :
    JM (w1.setCell ⟨p, 1, none⟩ v') N p dv v' sz lv now used told m ∧ OKept w (w1.setCell ⟨p, 1, none⟩ v') N p pv v' := by
  have hne := jm_ne h
  obtain ⟨hN, hp, hr0⟩ := h
  have hp1 : w1.heap[p]? = some (.cells (jC dv pv sz lv now used told) 64) := (hg.block p (lt_heap hp) (fun e => hne e.symm)).trans hp
  have hne1 : v'.ownBlock ≠ some p := own_size hr hp1 (by decide)
  refine ⟨⟨hN, ?_, ?_⟩, ?_⟩
  · rw [heap_setCell_same _ _ _ _ _ _ hp1]
    rfl
  · refine hr.kept (row := some p) ⟨rfl, rfl, rfl, by simp, fun k hk hr => heap_setCell_other _ _ _ _ (fun e => hr (by rw [e]))⟩ (.inr hne1)
  · have hb : Below N w w1 := (Below.refl N w).grown hg (Nat.le_trans hN (Nat.le_of_lt (lt_heap hp))) (fun k hk => (hr0.lt k hk).1)
    have hb2 := hb.setCell (p := ⟨p, 1, none⟩) hN v'
    refine ⟨hb2, by simpa using hg.size, fun k hk hkp hu => ?_, hn⟩
    rw [heap_setCell_other _ _ _ _ hkp]
    exact hg.block k hk hu
/-- the object tells another size -/
theorem jm_size {w : World} {N p : Nat} {dv pv lv : Value} {sz now used told : Int} {l : List JP} (h : JM w N p dv pv sz lv now used told l) (s : Int) :
    JM (w.setCell ⟨p, 2, none⟩ (.int .i64 s)) N p dv pv s lv now used told l ∧ OKept w (w.setCell ⟨p, 2, none⟩ (.int .i64 s)) N p pv pv := by
  have hne := jm_ne h
  obtain ⟨hN, hp, hr0⟩ := h
  refine ⟨⟨hN, ?_, ?_⟩, ?_⟩
  · rw [heap_setCell_same _ _ _ _ _ _ hp]
    rfl
  · refine hr0.kept (row := some p) ⟨rfl, rfl, rfl, by simp, fun k hk hr => heap_setCell_other _ _ _ _ (fun e => hr (by rw [e]))⟩ (.inr hne)
  · have hb2 := (Below.refl N w).setCell (p := ⟨p, 2, none⟩) hN (.int .i64 s)
    exact ⟨hb2, by simp, fun k hk hkp hu => heap_setCell_other _ _ _ _ hkp, .inl rfl⟩
theorem okept_drewJ {w w' : World} {N p : Nat} {v v' : Value} (h : OKept w.drew w' N p v v') : OKept w w' N p v v' := ⟨⟨h.below.os, h.below.tape, h.below.output, h.below.size, h.below.block⟩, h.size, h.block, h.new⟩
theorem sizeJ_app (a b : List JP) : sizeJ (a ++ b) = sizeJ a + sizeJ b := by unfold sizeJ allJ; rw [List.map_append, List.flatMap_append, List.length_append]
theorem sizeJ_cons (p : JP) (b : List JP) : sizeJ (p :: b) = (recS p).size + sizeJ b := by
  have e : (recS p).size = (JO.b ⟨p.k, p.v, false⟩).length := by show (JO.b ⟨p.k, p.v, false⟩).toArray.size = _; simp
  rw [e]
  unfold sizeJ allJ
  rw [List.map_cons, List.flatMap_cons, List.length_append]
/-- what find answers, by the parts of the list -/
theorem at_yesJ {A B : List JP} {k x : ByteArray} (hs : Srt (A ++ ⟨k, x⟩ :: B)) : ixK (A ++ ⟨k, x⟩ :: B) k = A.length ∧ hasK (A ++ ⟨k, x⟩ :: B) k = true ∧ ahK (A ++ ⟨k, x⟩ :: B) k = A ∧ beK (A ++ ⟨k, x⟩ :: B) k = B := by
  obtain ⟨h1, h2, h3⟩ := List.pairwise_append.1 hs
  obtain ⟨h4, h5⟩ := List.pairwise_cons.1 h2
  have ea : ahK (A ++ ⟨k, x⟩ :: B) k = A := by
    unfold ahK
    rw [List.filter_append, List.filter_eq_self.2 (fun a ha => h3 a ha _ (List.mem_cons_self ..)), List.filter_eq_nil_iff.2, List.append_nil]
    intro b hb hc
    rcases List.mem_cons.1 hb with rfl | hb
    · rw [ltK_irr] at hc; cases hc
    · have := ltK_trans (h4 b hb) hc; rw [ltK_irr] at this; cases this
  have eb : beK (A ++ ⟨k, x⟩ :: B) k = B := by
    unfold beK
    rw [List.filter_append, List.filter_eq_nil_iff.2, List.nil_append, List.filter_cons, if_neg (by rw [ltK_irr]; simp), List.filter_eq_self.2 (fun b hb => h4 b hb)]
    intro a ha hc
    have := ltK_trans hc (h3 a ha _ (List.mem_cons_self ..))
    rw [ltK_irr] at this
    cases this
  have ei : ixK (A ++ ⟨k, x⟩ :: B) k = A.length := by unfold ixK; rw [ea]
  refine ⟨ei, ?_, ea, eb⟩
  rw [has_iff hs, ei]
  exact ⟨x, by simp⟩
theorem jcut_no (w : World) (N p : Nat) (dv pv lv : Value) (sz now used told : Int) (l : List JP) (h : JM w N p dv pv sz lv now used told l) (hs : Srt l) (k : ByteArray) (hk : hasK l k = false) (hn : l.length ≤ 1000000) :
    Calls Tryz.prog 36 #[.pointer (some ⟨p, 0, none⟩), .string k] w fun e w' => e = .returned (.tuple #[]) ∧ Below w.heap.size w w' := by
  have hf := jfind p dv pv sz lv now used told l k w h.2.1 (SR.owns h.2.2) hs hn
  rw [hk] at hf
  generalize ixK l k = n0 at hf
  clear h hk
  go_enter Tryz.func36, Tryz.ntmps36
  go_wp2_with fail
  refine Calls.mono hf ?_
  rintro e w1 ⟨rfl, hb1⟩
  go_wp2_with fail
  refine bodyPost_end (results_none rfl _ _ _) rfl ?_
  exact ⟨rfl, hb1⟩
theorem jm_cells {w : World} {N p : Nat} {dv pv lv : Value} {sz now used told : Int} {l : List JP} (h : JM w N p dv pv sz lv now used told l) :
    w.cell? ⟨p, 0, none⟩ = some dv ∧ w.cell? ⟨p, 1, none⟩ = some pv ∧ w.cell? ⟨p, 2, none⟩ = some (.int .i64 sz) ∧ w.cell? ⟨p, 3, none⟩ = some lv ∧ w.frozen? ⟨p, 1, none⟩ = false ∧ w.frozen? ⟨p, 2, none⟩ = false ∧ w.frozen? ⟨p, 3, none⟩ = false := by
  have hp := h.2.1
  refine ⟨?_, ?_, ?_, ?_, ?_, ?_, ?_⟩ <;> simp [World.cell?, World.frozen?, hp, jC]
theorem jm_pair {w : World} {N p : Nat} {dv lv : Value} {a : Option Addr} {len cap : Nat} {sz now used told : Int} {l : List JP} (h : JM w N p dv (.slice a len cap) sz lv now used told l) (k : Nat) (x : JP) (hx : l[k]? = some x) :
    len = l.length ∧ l.length ≤ cap ∧ cap ≤ maxLen ∧ ∃ b off, a = some ⟨b, off, none⟩ ∧ w.cell? ⟨b, off + k * 2, none⟩ = some (.string x.k) ∧ w.cell? ⟨b, off + k * 2 + 1, none⟩ = some (.string x.v) := by
  obtain ⟨a', cap', he, q1, q2⟩ := (SR.owns h.2.2).form
  injection he with e1 e2 e3
  subst e1 e2 e3
  have hlt := (List.getElem?_eq_some_iff.1 hx).1
  obtain ⟨b, off, e, -, -, hc⟩ := sr_block_J (SR.owns h.2.2) (by omega)
  exact ⟨rfl, q1, q2, b, off, e, hc k x hx⟩
set_option maxHeartbeats 4000000 in
set_option maxRecDepth 100000 in
theorem jcut_yes (w : World) (N p : Nat) (dv pv lv : Value) (sz now used told : Int) (A B : List JP) (y : JP) (h : JM w N p dv pv sz lv now used told (A ++ y :: B)) (hs : Srt (A ++ y :: B)) (hn : (A ++ y :: B).length ≤ 1000000)
    (hz0 : sz ≤ 1000000000000) (hz1 : ((recS y).size : Int) ≤ sz) (hk : y.k.size ≤ 1073741824) (hv : y.v.size ≤ 1073741824) :
    Calls Tryz.prog 36 #[.pointer (some ⟨p, 0, none⟩), .string y.k] w fun e w' => e = .returned (.tuple #[]) ∧ ∃ pv', JM w' N p dv pv' (sz - (recS y).size) lv now used told (A ++ B) ∧ OKept w w' N p pv pv' := by
  have hf := jfind p dv pv sz lv now used told _ y.k w h.2.1 (SR.owns h.2.2) hs hn
  rw [(at_yesJ hs).1, (at_yesJ hs).2.1] at hf
  have hNw : N ≤ w.heap.size := Nat.le_trans h.1 (Nat.le_of_lt (lt_heap h.2.1))
  have HH := Lib.hid h
  have cR := fun w => jrecord y w hk hv
  obtain ⟨T, hT⟩ : ∃ T, recS y = T := ⟨_, rfl⟩
  rw [hT] at hz1 cR ⊢
  have hz2 : (T.size : Int) ≤ 1000000000000 := by omega
  obtain ⟨m, hm⟩ : ∃ m, m = (A ++ y :: B).length := ⟨_, rfl⟩
  have hAm : A.length < m := by rw [hm]; simp
  rw [← hm] at hn
  have HM := Lib.hid hm
  clear h hs hT hk hv hm
  go_enter Tryz.func36, Tryz.ntmps36
  go_wp2_with fail
  refine Calls.mono hf ?_
  rintro e w1 ⟨rfl, hb1⟩
  have h1 := HH.out.below hb1
  have HB := Lib.hid hb1
  have H1 := Lib.hid h1
  obtain ⟨a, cap, rfl, -, -⟩ := (SR.owns h1.2.2).form
  obtain ⟨-, c1, c2, -, f1, f2, -⟩ := jm_cells h1
  obtain ⟨hlen, hq1, hq2, b, off, rfl, r0, r1⟩ := jm_pair h1 A.length y (by simp)
  unfold maxLen at hq2
  rw [← HM.out] at c1 hq1
  clear hb1 h1 HH hf hlen
  go_upto_region 2 with fail
  go_region_with (go_at_call 45; refine Calls.mono (cR _) ?_; rintro e w2 ⟨rfl, hb2⟩; have h2 := H1.out.drew.below hb2; obtain ⟨-, d1, d2, -, g1, g2, -⟩ := jm_cells h2; obtain ⟨-, -, -, b', off', heq, s0, s1⟩ := jm_pair h2 A.length y (by simp); injection heq with heq; injection heq with q1 q2; subst q1 q2; rw [← HM.out] at d1)
  all_goals
    have h3 := jm_size h2 (sz - T.size)
    have HB2 := Lib.hid (And.intro h3 hb2)
    have hdel := delete_own A B y _ N _ h3.1.2.2 (by rw [← HM.out]; exact hn)
    rw [← HM.out] at hdel
    have h4 := h3.1
    obtain ⟨-, e1, e2, -, -, -, -⟩ := jm_cells h4
    rw [← HM.out] at e1
    have H4 := Lib.hid h4
    clear h2 hb2 h3 d1 d2 g1 g2 s0 s1 c1 c2 f1 f2 r0 r1 h4
    go_wp2_with fail
    refine Calls.mono hdel ?_
    rintro e w3 ⟨v', rfl, hr3, hg3, hnr⟩
    have hp3 := (hg3.block p (lt_heap H4.out.2.1) (fun e => jm_ne H4.out (by rw [← HM.out]; exact e.symm))).trans H4.out.2.1
    have fr3 : w3.frozen? ⟨p, 1, none⟩ = false := by simp [World.frozen?, hp3]
    have cc3 : ∃ u, w3.cell? ⟨p, 1, none⟩ = some u := ⟨_, by simp [World.cell?, hp3, jC]; rfl⟩
    have HP := Lib.hid (jm_put H4.out (by rw [← HM.out]; exact hg3) hr3 (by rw [← HM.out]; exact hnr))
    obtain ⟨u3, cc3⟩ := cc3
    obtain ⟨a2, cp2, rfl, -, -⟩ := (SR.owns hr3).form
    clear hr3 hg3 hnr hp3 hdel
    go_wp2_with fail
    refine bodyPost_end (results_none rfl _ _ _) rfl ?_
    rw [← List.length_append]
    exact ⟨rfl, _, HP.out.1, (OKept.of_below HB.out hNw).trans ((okept_drewJ (OKept.of_below HB2.out.2 (Nat.le_trans hNw HB.out.size))).trans (HB2.out.1.2.trans HP.out.2))⟩
theorem has_no {l : List JP} (hs : Srt l) {k : ByteArray} (h : ∀ p ∈ l, p.k ≠ k) : hasK l k = false := by
  cases hh : hasK l k
  · rfl
  · obtain ⟨v, hv⟩ := (has_iff hs k).1 hh
    exact absurd rfl (h _ (List.mem_of_getElem? hv))
theorem jcut (w : World) (N p : Nat) (dv pv lv : Value) (now used told : Int) (l : List JP) (h : JM w N p dv pv (sizeJ l) lv now used told l) (hs : Srt l) (hn : l.length ≤ 1000000) (hz : sizeJ l ≤ 1000000000000)
    (hok : ∀ q ∈ l, q.k.size ≤ 1073741824 ∧ q.v.size ≤ 1073741824) (k : ByteArray) :
    Calls Tryz.prog 36 #[.pointer (some ⟨p, 0, none⟩), .string k] w fun e w' => e = .returned (.tuple #[]) ∧ ∃ pv', JM w' N p dv pv' (sizeJ (cutK l k)) lv now used told (cutK l k) ∧ OKept w w' N p pv pv' := by
  have hNw : N ≤ w.heap.size := Nat.le_trans h.1 (Nat.le_of_lt (lt_heap h.2.1))
  rcases srt_split hs k with ⟨e, hne⟩ | ⟨v, e⟩
  · rw [show cutK l k = l from e.symm]
    refine (jcut_no w N p dv pv lv _ now used told l h hs k (has_no hs hne) hn).mono ?_
    rintro e w' ⟨rfl, hb⟩
    exact ⟨rfl, pv, h.below hb, OKept.of_below hb hNw⟩
  · have ec : cutK l k = ahK l k ++ beK l k := rfl
    rw [ec]
    generalize ahK l k = A at e
    generalize beK l k = B at e
    subst e
    have hy := hok ⟨k, v⟩ (by simp)
    have e1 : sizeJ (A ++ ⟨k, v⟩ :: B) = sizeJ (A ++ B) + (recS ⟨k, v⟩).size := by rw [sizeJ_app, sizeJ_cons, sizeJ_app]; omega
    refine (jcut_yes w N p dv pv lv _ now used told A B ⟨k, v⟩ h hs hn (by omega) (by omega) hy.1 hy.2).mono ?_
    rintro e w' ⟨rfl, pv', h1, h2⟩
    refine ⟨rfl, pv', ?_, h2⟩
    rw [show ((sizeJ (A ++ B) : Nat) : Int) = (sizeJ (A ++ ⟨k, v⟩ :: B) : Nat) - ((recS ⟨k, v⟩).size : Nat) by omega]
    exact h1
end Go.Proofs.YtgnnijpfkgmomaaGreatDoor
/-
  journal: set of a key that has no value yet.
-/

namespace Go.Proofs.YtgnnijpfkgmomaaGreatDoor
open Go.RowKit
set_option linter.unusedVariables false
set_option linter.unusedSimpArgs false

theorem own_ne_newJ {w : World} {N n size : Nat} {e : TypeId} {v : Value} {xs : List Value} (h : w.ownsRow N e size v n xs) {k : Nat} (hk : w.heap.size ≤ k) : v.ownBlock ≠ some k := fun e => by have := (h.lt k e).2; omega
theorem jm_far {w3 w4 : World} {N p : Nat} {dv pv lv : Value} {sz now used told : Int} {l : List JP} {o : Obj} (h : JM w3 N p dv pv sz lv now used told l) (hg : (w3.drew.alloc o).grownBy w4 pv.ownBlock) : w4.heap[p]? = some (.cells (jC dv pv sz lv now used told) 64) :=
  (hg.block p (by have := lt_heap h.2.1; simp; omega) (fun e => jm_ne h e.symm)).trans (Below.heap_alloc w3.drew _ p (lt_heap h.2.1) |>.trans h.2.1)
set_option maxHeartbeats 4000000 in
set_option maxRecDepth 100000 in
theorem jset_no (w : World) (N p : Nat) (dv pv lv : Value) (sz now used told : Int) (A B : List JP) (x : JP) (h : JM w N p dv pv sz lv now used told (A ++ B)) (hs : Srt (A ++ B)) (hn : (A ++ B).length ≤ 100000)
    (hi : ixK (A ++ B) x.k = A.length) (hh : hasK (A ++ B) x.k = false) (hz0 : 0 ≤ sz) (hz1 : sz ≤ 1000000000000) (hk : x.k.size ≤ 1073741824) (hv : x.v.size ≤ 1073741824) :
    Calls Tryz.prog 47 #[.pointer (some ⟨p, 0, none⟩), .string x.k, .string x.v] w fun e w' => e = .returned (.tuple #[]) ∧ ∃ pv', JM w' N p dv pv' (sz + (recS x).size) lv now used told (A ++ x :: B) ∧ OKept w w' N p pv pv' := by
  have hNw : N ≤ w.heap.size := Nat.le_trans h.1 (Nat.le_of_lt (lt_heap h.2.1))
  have cR := fun w => jrecord x w hk hv
  have hT2 : (recS x).size ≤ 10000000000 := by
    show (JO.b ⟨x.k, x.v, false⟩).toArray.size ≤ _
    rw [List.size_toArray]
    unfold JO.b
    have g1 := textL_len x.k hk
    have g2 := textL_len x.v hv
    rw [if_neg (by simp)]
    simp only [List.length_cons, List.length_append]
    omega
  have hX := heap_alloc_self w (.cells #[.string x.k, .string x.v] 43)
  have hb0 : Below w.heap.size w (w.alloc (.cells #[.string x.k, .string x.v] 43)) := (Below.refl _ _).alloc (Nat.le_refl _) _
  have hXo : pv.ownBlock ≠ some w.heap.size := own_ne_newJ h.2.2 (Nat.le_refl _)
  have hXp : w.heap.size ≠ p := by have := lt_heap h.2.1; omega
  have h0 := h.below hb0
  have hf := jfind p dv pv sz lv now used told _ x.k _ h0.2.1 (SR.owns h0.2.2) hs (by omega)
  rw [hi, hh] at hf
  obtain ⟨X, hXe⟩ : ∃ X, w.heap.size = X := ⟨_, rfl⟩
  have HB0 := Lib.hid (And.intro hb0 (And.intro hXe hNw))
  rw [hXe] at hX hXo hXp
  obtain ⟨T, hT⟩ : ∃ T, recS x = T := ⟨_, rfl⟩
  rw [hT] at hT2 cR ⊢
  have HX := Lib.hid (And.intro hXo hXp)
  have H0 := Lib.hid h0
  clear h hs hi hh hT hk hv hb0 hNw h0 hXo hXp
  go_enter Tryz.func47, Tryz.ntmps47
  go_upto_region 1 with fail
  try simp only [hXe]
  generalize w.alloc (.cells #[.string x.k, .string x.v] 43) = w0 at *
  go_wp2_with fail
  refine Calls.mono hf ?_
  rintro e w3 ⟨rfl, hb3⟩
  have h3 := H0.out.below hb3
  have hX3 := below_at hb3 (lt_heap hX) hX
  have HX3 := Lib.hid hX3
  have HB3 := Lib.hid hb3
  have H3 := Lib.hid h3
  have d0 : w3.cell? ⟨X, 0, none⟩ = some (.string x.k) := by simp [World.cell?, hX3]
  have d1 : w3.cell? ⟨X, 1, none⟩ = some (.string x.v) := by simp [World.cell?, hX3]
  obtain ⟨-, hc, -⟩ := jm_cells h3
  obtain ⟨a, c, hVf, -, -⟩ := (SR.owns h3.2.2).form
  obtain ⟨n, hn'⟩ : ∃ n, n = (A ++ B).length := ⟨_, rfl⟩
  rw [← hn'] at hVf
  rw [hVf] at hc
  have HV := Lib.hid hVf.symm
  have nc : (w3.alloc (.cells #[.string x.k, .string x.v] 43)).cell? ⟨p, 1, none⟩ = some (.slice a n c) := (World.cell?_alloc_lt w3 _ ⟨p, 1, none⟩ (lt_heap h3.2.1)).trans hc
  have HN3 := Lib.hid (show N ≤ w3.heap.size from Nat.le_trans HB0.out.2.2 (Nat.le_trans HB0.out.1.size hb3.size))
  have HNN := Lib.hid hn'
  clear hb3 h3 hX3 hX hf hVf hn'
  go_upto_region 5 with fail
  go_region_with (go_at_call 78; refine Calls.mono (insert_any A B x (w3.drew.alloc (.cells #[.string x.k, .string x.v] 43)) N (.slice a n c) (by rw [HV.out]; exact (H3.out.drew.2.2.alloc _)) w3.heap.size (heap_alloc_self w3.drew _) (by rw [HV.out]; exact own_ne_newJ H3.out.2.2 (Nat.le_refl _)) (by omega) (by have := HN3.out; simp; omega)) ?_; rintro e w4 ⟨v', rfl, hr4, hg4, hnr⟩; have hp4 : w4.heap[p]? = some (.cells (jC dv pv sz lv now used told) 64) := (jm_far H3.out (by rw [← HV.out]; exact hg4)); have hc4 : w4.cell? ⟨p, 1, none⟩ = some pv := (by simp [World.cell?, hp4, jC]); have hf4 : w4.frozen? ⟨p, 1, none⟩ = false := (by simp [World.frozen?, hp4]); obtain ⟨a2, cp2, rfl, _, _⟩ := (SR.owns hr4).form)
  all_goals
    have hP := jm_put (H3.out.drew.below ((Below.refl _ w3.drew).alloc (Nat.le_refl _) (.cells #[.string x.k, .string x.v] 43))) (by rw [← HV.out]; exact hg4) hr4 (by rw [← HV.out]; exact hnr)
    rw [show (A ++ x :: B).length = A.length + (B.length + 1) by simp] at hP
    clear hr4 hg4 hnr hp4 hc4 hf4 hc nc d0 d1
    generalize w4.setCell ⟨p, 1, none⟩ (.slice a2 (A.length + (B.length + 1)) cp2) = W5 at hP ⊢
    generalize Value.slice a2 (A.length + (B.length + 1)) cp2 = V5 at hP ⊢
    obtain ⟨hJ5, hK5⟩ := hP
    have hX5 := (hK5.block X (by have := lt_heap HX3.out; simp; omega) HX.out.2 (fun e => HX.out.1 e.symm)).trans ((Below.heap_alloc w3.drew _ X (lt_heap HX3.out)).trans HX3.out)
    have k0 : W5.cell? ⟨X, 0, none⟩ = some (.string x.k) := by simp [World.cell?, hX5]
    have k1 : W5.cell? ⟨X, 1, none⟩ = some (.string x.v) := by simp [World.cell?, hX5]
    obtain ⟨-, -, k2, -⟩ := jm_cells hJ5
    have H5 := Lib.hid hJ5
    have HK5 := Lib.hid hK5
    have hN5 := Nat.le_trans HN3.out (show w3.heap.size ≤ W5.heap.size from Nat.le_trans (by simp) hK5.size)
    have HN5 := Lib.hid hN5
    clear hJ5 hK5 hX5 hN5
    go_upto_region 6 with fail
    go_region_with (go_at_call 45; refine Calls.mono (cR _) ?_; rintro e w6 ⟨rfl, hb6⟩; have h6 := H5.out.drew.below hb6; obtain ⟨-, -, d2, -, -, g2, -⟩ := jm_cells h6)
    all_goals
      have h7 := jm_size h6 (sz + T.size)
      have H7 := Lib.hid (And.intro h7 hb6)
      clear h6 h7 hb6 d2 g2
      go_wp2_with fail
      refine bodyPost_end (results_none rfl _ _ _) rfl ?_
      rw [show IntKind.i64.wrap (sz + (T.size : Int)) = sz + (T.size : Int) by rw [IntKind.wrap_i64]; omega]
      exact ⟨rfl, _, H7.out.1.1, (OKept.of_below HB0.out.1 HB0.out.2.2).trans ((OKept.of_below HB3.out (Nat.le_trans HB0.out.2.2 HB0.out.1.size)).trans ((okept_drewJ (OKept.of_below ((Below.refl _ w3.drew).alloc (Nat.le_refl _) _) HN3.out)).trans (HK5.out.trans ((okept_drewJ (OKept.of_below H7.out.2 HN5.out)).trans H7.out.1.2))))⟩
end Go.Proofs.YtgnnijpfkgmomaaGreatDoor
/-
  journal: a pair of the row is written over.
-/


namespace Go.Proofs.YtgnnijpfkgmomaaGreatDoor
open Go.RowKit
set_option linter.unusedVariables false
set_option linter.unusedSimpArgs false

/-- a pair of the row has been written over -/
theorem jm_over {w : World} {N p : Nat} {dv lv : Value} {sz now used told : Int} {A B : List JP} {y : JP} {a : Addr} {n c : Nat} (h : JM w N p dv (.slice (some a) n c) sz lv now used told (A ++ y :: B)) (x : JP) :
    JM ((w.setCell ⟨a.block, a.off + A.length * 2, none⟩ (.string x.k)).setCell ⟨a.block, a.off + A.length * 2 + 1, none⟩ (.string x.v)) N p dv (.slice (some a) n c) sz lv now used told (A ++ x :: B) ∧
    OKept w ((w.setCell ⟨a.block, a.off + A.length * 2, none⟩ (.string x.k)).setCell ⟨a.block, a.off + A.length * 2 + 1, none⟩ (.string x.v)) N p (.slice (some a) n c) (.slice (some a) n c) := by
  have hne := jm_ne h
  obtain ⟨hN, hp, hr⟩ := h
  have hlenA : (pCells A).length = A.length * 2 := pCells_len A
  have hlen : (A ++ x :: B).length = (A ++ y :: B).length := by simp
  rcases hr.2 with ⟨h0, _⟩ | ⟨g, cap, cur, h1, hb, hgc, hnc, hcm, hcs, ht⟩
  · injection h0 with h0; cases h0
  · injection h1 with e1 e2 e3
    injection e1 with e1
    subst e1 e2 e3
    simp only [Nat.zero_add]
    have hgp : g ≠ p := fun e => hne (by rw [e]; rfl)
    refine ⟨⟨hN, ?_, ?_⟩, ?_⟩
    · rw [heap_setCell_other _ _ _ _ (Ne.symm hgp), heap_setCell_other _ _ _ _ (Ne.symm hgp)]
      exact hp
    · have k := heap_set_self (heap_set_self hgc (A.length * 2) (.string x.k)) (A.length * 2 + 1) (.string x.v)
      rw [hlen]
      refine own_of hb k hnc hcm (by simpa using hcs) (by rw [pCells_len, hlen]) ?_
      obtain ⟨R, hR⟩ : ∃ R, R = cur.toList.drop ((A ++ y :: B).length * 2) := ⟨_, rfl⟩
      have hcl : cur.toList = pCells A ++ (.string y.k :: .string y.v :: pCells B) ++ R := by
        have h2 : pCells (A ++ y :: B) = pCells A ++ (.string y.k :: .string y.v :: pCells B) := by rw [pCells_app]; rfl
        rw [← h2, ← ht, hR, List.take_append_drop]
      simp only [Array.toList_setIfInBounds]
      have h3 : (cur.toList.set (A.length * 2) (.string x.k)).set (A.length * 2 + 1) (.string x.v) = pCells (A ++ x :: B) ++ R := by
        have h2 : pCells (A ++ x :: B) = pCells A ++ (.string x.k :: .string x.v :: pCells B) := by rw [pCells_app]; rfl
        rw [hcl, h2]
        simp only [List.append_assoc]
        rw [List.set_append_right _ _ (by omega), List.set_append_right _ _ (by omega), hlenA]
        simp only [Nat.sub_self, show A.length * 2 + 1 - A.length * 2 = 1 by omega]
        simp
      rw [h3]
      exact List.take_left' (by rw [pCells_len, hlen])
    · have hbb := ((Below.refl N w).setCell (p := ⟨g, A.length * 2, none⟩) hb (.string x.k)).setCell (p := ⟨g, A.length * 2 + 1, none⟩) hb (.string x.v)
      refine ⟨hbb, by simp, fun k hk hkp hu => ?_, .inl rfl⟩
      have hkg : k ≠ g := fun e => hu (by rw [e]; rfl)
      rw [heap_setCell_other _ _ _ _ hkg, heap_setCell_other _ _ _ _ hkg]
end Go.Proofs.YtgnnijpfkgmomaaGreatDoor
/-
  journal: set of a key that has a value.
-/

namespace Go.Proofs.YtgnnijpfkgmomaaGreatDoor
open Go.RowKit
set_option linter.unusedVariables false
set_option linter.unusedSimpArgs false

set_option maxHeartbeats 4000000 in
set_option maxRecDepth 100000 in
theorem jset_yes (w : World) (N p : Nat) (dv pv lv : Value) (sz now used told : Int) (A B : List JP) (y : JP) (v : ByteArray) (h : JM w N p dv pv sz lv now used told (A ++ y :: B)) (hs : Srt (A ++ y :: B)) (hn : (A ++ y :: B).length ≤ 100000)
    (hz0 : sz ≤ 1000000000000) (hz1 : ((recS y).size : Int) ≤ sz) (hk : y.k.size ≤ 1073741824) (hv : y.v.size ≤ 1073741824) (hv2 : v.size ≤ 1073741824) :
    Calls Tryz.prog 47 #[.pointer (some ⟨p, 0, none⟩), .string y.k, .string v] w fun e w' => e = .returned (.tuple #[]) ∧ ∃ pv', JM w' N p dv pv' (sz - (recS y).size + (recS ⟨y.k, v⟩).size) lv now used told (A ++ ⟨y.k, v⟩ :: B) ∧ OKept w w' N p pv pv' := by
  have hNw : N ≤ w.heap.size := Nat.le_trans h.1 (Nat.le_of_lt (lt_heap h.2.1))
  have cR := fun w => jrecord y w hk hv
  have cR2 := fun w => jrecord ⟨y.k, v⟩ w hk hv2
  have hX := heap_alloc_self w (.cells #[.string y.k, .string v] 43)
  have hb0 : Below w.heap.size w (w.alloc (.cells #[.string y.k, .string v] 43)) := (Below.refl _ _).alloc (Nat.le_refl _) _
  have hXo : pv.ownBlock ≠ some w.heap.size := own_ne_newJ h.2.2 (Nat.le_refl _)
  have hXp : w.heap.size ≠ p := by have := lt_heap h.2.1; omega
  have h0 := h.below hb0
  have hf := jfind p dv pv sz lv now used told _ y.k _ h0.2.1 (SR.owns h0.2.2) hs (by omega)
  rw [(at_yesJ hs).1, (at_yesJ hs).2.1] at hf
  obtain ⟨X, hXe⟩ : ∃ X, w.heap.size = X := ⟨_, rfl⟩
  have HB0 := Lib.hid (And.intro hb0 (And.intro hXe hNw))
  rw [hXe] at hX hXo hXp
  obtain ⟨T, hT⟩ : ∃ T, recS y = T := ⟨_, rfl⟩
  rw [hT] at hz1 cR ⊢
  have hT2 : (recS ⟨y.k, v⟩).size ≤ 10000000000 := by
    show (JO.b ⟨y.k, v, false⟩).toArray.size ≤ _
    rw [List.size_toArray]
    unfold JO.b
    have g1 := textL_len y.k hk
    have g2 := textL_len v hv2
    rw [if_neg (by simp)]
    simp only [List.length_cons, List.length_append]
    omega
  obtain ⟨U, hU⟩ : ∃ U, recS ⟨y.k, v⟩ = U := ⟨_, rfl⟩
  rw [hU] at cR2 hT2 ⊢
  have hz2 : (T.size : Int) ≤ 1000000000000 := by omega
  obtain ⟨m, hm⟩ : ∃ m, m = (A ++ y :: B).length := ⟨_, rfl⟩
  have hAm : A.length < m := by rw [hm]; simp
  rw [← hm] at hn
  have HM := Lib.hid hm
  have HX := Lib.hid (And.intro hXo hXp)
  have H0 := Lib.hid h0
  clear h hs hT hU hk hv hv2 hm hb0 hNw h0 hXo hXp
  go_enter Tryz.func47, Tryz.ntmps47
  go_upto_region 1 with fail
  try simp only [hXe]
  generalize w.alloc (.cells #[.string y.k, .string v] 43) = w0 at *
  go_wp2_with fail
  refine Calls.mono hf ?_
  rintro e w1 ⟨rfl, hb1⟩
  have h1 := H0.out.below hb1
  have hX1 := below_at hb1 (lt_heap hX) hX
  have HX1 := Lib.hid hX1
  have HB := Lib.hid hb1
  have H1 := Lib.hid h1
  obtain ⟨a, cap, rfl, -, -⟩ := (SR.owns h1.2.2).form
  obtain ⟨-, c1, c2, -, f1, f2, -⟩ := jm_cells h1
  obtain ⟨hlen, hq1, hq2, b, off, rfl, r0, r1⟩ := jm_pair h1 A.length y (by simp)
  unfold maxLen at hq2
  rw [← HM.out] at c1 hq1
  clear hb1 h1 hf hlen hX1 hX
  go_upto_region 3 with fail
  go_region_with (go_at_call 45; refine Calls.mono (cR _) ?_; rintro e w2 ⟨rfl, hb2⟩; have h2 := H1.out.drew.below hb2; obtain ⟨-, d1, d2, -, g1, g2, -⟩ := jm_cells h2; obtain ⟨-, -, -, b', off', heq, s0, s1⟩ := jm_pair h2 A.length y (by simp); injection heq with heq; injection heq with q1 q2; subst q1 q2; rw [← HM.out] at d1)
  all_goals
    have h3 := jm_size h2 (sz - T.size)
    have hX2 := below_at hb2 (lt_heap HX1.out) HX1.out
    have hX3 := (h3.2.block X (lt_heap hX2) HX.out.2 (fun e => HX.out.1 e.symm)).trans hX2
    have HB2 := Lib.hid (And.intro h3 hb2)
    clear h2 hb2 d1 d2 g1 g2 s0 s1 c1 c2 f1 f2 r0 r1
    have h4 := h3.1
    have x0 : (w2.setCell ⟨p, 2, none⟩ (.int .i64 (sz - T.size))).cell? ⟨X, 0, none⟩ = some (.string y.k) := by simp only [World.cell?, hX3]; rfl
    have x1 : (w2.setCell ⟨p, 2, none⟩ (.int .i64 (sz - T.size))).cell? ⟨X, 1, none⟩ = some (.string v) := by simp only [World.cell?, hX3]; rfl
    clear h3
    rw [show IntKind.i64.wrap (sz - (T.size : Int)) = sz - (T.size : Int) by rw [IntKind.wrap_i64]; omega]
    generalize w2.setCell ⟨p, 2, none⟩ (.int .i64 (sz - T.size)) = W4 at *
    obtain ⟨-, e1, e2, -, -, -, -⟩ := jm_cells h4
    rw [← HM.out] at e1
    obtain ⟨-, -, -, b', off', heq, r0, r1⟩ := jm_pair h4 A.length y (by simp)
    injection heq with heq
    injection heq with q1 q2
    subst q1 q2
    have fb : ∀ o, W4.frozen? ⟨b, o, none⟩ = false := fun o => by
      rcases h4.2.2.2 with ⟨he, _⟩ | ⟨g, cap', cur, he, hgN, hg, hnc, hcm, hcs, ht⟩
      · injection he with he; cases he
      · injection he with he
        injection he with he
        injection he with q1 q2
        subst q1
        simp [World.frozen?, hg]
    have hO := jm_over h4 ⟨y.k, v⟩
    have hX5 := (hO.2.block X (lt_heap hX3) HX.out.2 (fun e => HX.out.1 e.symm)).trans hX3
    simp only at hO hX5
    clear h4 hX2 hX3
    go_upto_region 4 with fail
    go_region
    generalize (W4.setCell ⟨b, off + A.length * 2, none⟩ (.string y.k)).setCell ⟨b, off + A.length * 2 + 1, none⟩ (.string v) = W5 at hO hX5 ⊢
    obtain ⟨hJ5, hK5⟩ := hO
    have k0 : W5.cell? ⟨X, 0, none⟩ = some (.string y.k) := by simp [World.cell?, hX5]
    have k1 : W5.cell? ⟨X, 1, none⟩ = some (.string v) := by simp [World.cell?, hX5]
    obtain ⟨-, -, k2, -⟩ := jm_cells hJ5
    have H5 := Lib.hid hJ5
    have HK5 := Lib.hid hK5
    clear hJ5 hK5 hX5 e1 e2 r0 r1 fb x0 x1
    go_upto_region 6 with fail
    go_region_with (go_at_call 45; refine Calls.mono (cR2 _) ?_; rintro e w6 ⟨rfl, hb6⟩; have h6 := (by first | exact H5.out.drew.below hb6 | exact H5.out.drew.drew.below hb6 : JM w6 N p dv (.slice (some ⟨b, off, none⟩) (A ++ y :: B).length cap) (sz - T.size) lv now used told (A ++ ⟨y.k, v⟩ :: B)); obtain ⟨-, -, d2, -, -, g2, -⟩ := jm_cells h6)
    all_goals
      have h7 := jm_size h6 (sz - T.size + U.size)
      have H7 := Lib.hid (And.intro h7 hb6)
      clear h6 h7 hb6 d2 g2
      go_wp2_with fail
      refine bodyPost_end (results_none rfl _ _ _) rfl ?_
      rw [show IntKind.i64.wrap (sz - (T.size : Int) + (U.size : Int)) = sz - (T.size : Int) + (U.size : Int) by rw [IntKind.wrap_i64]; omega]
      have hN0 : N ≤ w0.heap.size := Nat.le_trans HB0.out.2.2 HB0.out.1.size
      have hN1 : N ≤ w1.heap.size := Nat.le_trans hN0 HB.out.size
      have hN5 : N ≤ W5.heap.size := Nat.le_trans hN1 (Nat.le_trans HB2.out.2.size (Nat.le_trans HB2.out.1.2.size HK5.out.size))
      have q1 := (OKept.of_below (N := N) (p := p) (v := .slice (some ⟨b, off, none⟩) (A ++ y :: B).length cap) HB0.out.1 HB0.out.2.2).trans (OKept.of_below HB.out hN0)
      have q2 := q1.trans (okept_drewJ (OKept.of_below HB2.out.2 hN1))
      have q3 := q2.trans HB2.out.1.2
      have q4 := q3.trans HK5.out
      have q5 := q4.trans (by first | exact okept_drewJ (OKept.of_below H7.out.2 hN5) | exact okept_drewJ (okept_drewJ (OKept.of_below H7.out.2 hN5)))
      exact ⟨rfl, _, H7.out.1.1, q5.trans H7.out.1.2⟩
end Go.Proofs.YtgnnijpfkgmomaaGreatDoor
/-
  journal: set of any key.
-/

namespace Go.Proofs.YtgnnijpfkgmomaaGreatDoor
open Go.RowKit
set_option linter.unusedVariables false
set_option linter.unusedSimpArgs false

theorem jset (w : World) (N p : Nat) (dv pv lv : Value) (now used told : Int) (l : List JP) (h : JM w N p dv pv (sizeJ l) lv now used told l) (hs : Srt l) (hn : l.length ≤ 100000) (hz : sizeJ l ≤ 1000000000000)
    (hok : ∀ q ∈ l, q.k.size ≤ 1073741824 ∧ q.v.size ≤ 1073741824) (k v : ByteArray) (hk : k.size ≤ 1073741824) (hv : v.size ≤ 1073741824) :
    Calls Tryz.prog 47 #[.pointer (some ⟨p, 0, none⟩), .string k, .string v] w fun e w' => e = .returned (.tuple #[]) ∧ ∃ pv', JM w' N p dv pv' (sizeJ (setK l k v)) lv now used told (setK l k v) ∧ OKept w w' N p pv pv' := by
  have ec : setK l k v = ahK l k ++ ⟨k, v⟩ :: beK l k := rfl
  rcases srt_split hs k with ⟨e, hne⟩ | ⟨x, e⟩
  · have hi : ixK l k = (ahK l k).length := rfl
    have hh := has_no hs hne
    rw [ec]
    generalize ahK l k = A at e hi
    generalize beK l k = B at e
    subst e
    refine (jset_no w N p dv pv lv _ now used told A B ⟨k, v⟩ h hs hn hi hh (by omega) (by omega) hk hv).mono ?_
    rintro e w' ⟨rfl, pv', h1, h2⟩
    refine ⟨rfl, pv', ?_, h2⟩
    rw [show ((sizeJ (A ++ ⟨k, v⟩ :: B) : Nat) : Int) = (sizeJ (A ++ B) : Nat) + ((recS ⟨k, v⟩).size : Nat) by rw [sizeJ_app, sizeJ_cons, sizeJ_app]; omega]
    exact h1
  · rw [ec]
    generalize ahK l k = A at e
    generalize beK l k = B at e
    subst e
    have hy := hok ⟨k, x⟩ (by simp)
    have e1 : sizeJ (A ++ ⟨k, x⟩ :: B) = sizeJ A + ((recS ⟨k, x⟩).size + sizeJ B) := by rw [sizeJ_app, sizeJ_cons]
    refine (jset_yes w N p dv pv lv _ now used told A B ⟨k, x⟩ v h hs hn (by omega) (by omega) hy.1 hy.2 hv).mono ?_
    rintro e w' ⟨rfl, pv', h1, h2⟩
    refine ⟨rfl, pv', ?_, h2⟩
    rw [show ((sizeJ (A ++ ⟨k, v⟩ :: B) : Nat) : Int) = (sizeJ (A ++ ⟨k, x⟩ :: B) : Nat) - ((recS ⟨k, x⟩).size : Nat) + ((recS ⟨k, v⟩).size : Nat) by rw [sizeJ_app, sizeJ_cons, e1]; omega]
    exact h1
end Go.Proofs.YtgnnijpfkgmomaaGreatDoor
