/-
  Several texts, laid together.
-/
import Derived.Test.YtfgmeeponipjeaaMg6
import Derived.Maps.AppendAt
import Derived.Deep.RegionLaw
import Derived.Shelf.Spec.SlicesInsertGrow
import Derived.Test.YtfgmeeponipjeaaMg1
import Derived.Test.YtfgmeeponipjeaaShelf
/-
  items: find: where a block's item is.
-/

namespace Go.Proofs.Ytfgmeeponipjeaa
open Go.RowKit
set_option linter.unusedVariables false
set_option linter.unusedSimpArgs false

def cmpI (x y : Int) : Int := if x < y then -1 else if y < x then 1 else 0
theorem nan_int (x : Int) (w : World) : Calls Try.prog 110 #[.int .i64 x] w fun e w' => e = .returned (.bool false) ∧ w = w' := by
  go_enter Try.func110, Try.ntmps110
  go_wp2_with fail
  go_ret
  exact ⟨by simp, rfl⟩
theorem compare_int (x y : Int) (w : World) : Calls Try.prog 93 #[.int .i64 x, .int .i64 y] w fun e w' => e = .returned (.int .i64 (cmpI x y)) ∧ w = w' := by
  unfold cmpI
  have c1 := nan_int x
  have c2 := nan_int y
  by_cases h1 : x < y
  · have h2 : ¬ y < x := by omega
    rw [if_pos h1]
    go_enter Try.func93, Try.ntmps93
    go_wp2_with fail
    refine Calls.mono (c1 _) ?_
    rintro e w1 ⟨rfl, rfl⟩
    go_wp2_with fail
    refine Calls.mono (c2 _) ?_
    rintro e w1 ⟨rfl, rfl⟩
    go_wp2_with fail
    go_ret
    exact ⟨rfl, rfl⟩
  · rw [if_neg h1]
    by_cases h2 : y < x
    · rw [if_pos h2]
      go_enter Try.func93, Try.ntmps93
      go_wp2_with fail
      refine Calls.mono (c1 _) ?_
      rintro e w1 ⟨rfl, rfl⟩
      go_wp2_with fail
      refine Calls.mono (c2 _) ?_
      rintro e w1 ⟨rfl, rfl⟩
      go_wp2_with fail
      go_ret
      exact ⟨rfl, rfl⟩
    · rw [if_neg h2]
      go_enter Try.func93, Try.ntmps93
      go_wp2_with fail
      refine Calls.mono (c1 _) ?_
      rintro e w1 ⟨rfl, rfl⟩
      go_wp2_with fail
      refine Calls.mono (c2 _) ?_
      rintro e w1 ⟨rfl, rfl⟩
      go_wp2_with fail
      go_ret
      exact ⟨rfl, rfl⟩
theorem find_clos (h : HI) (b : Int) (w : World) : Calls Try.prog 92 #[.agg #[.int .i64 h.b, .int .u64 h.v, .string h.d], .int .i64 b] w fun e w' => e = .returned (.int .i64 (cmpI h.b b)) ∧ Below w.heap.size w w' := by
  go_enter Try.func92, Try.ntmps92
  go_wp2_with fail
  refine Calls.mono (compare_int h.b b _) ?_
  rintro e w1 ⟨rfl, rfl⟩
  go_wp2_with fail
  go_ret
  exact ⟨rfl, by go_grown⟩
theorem cmpI_lt {x y : Int} : cmpI x y < 0 ↔ x < y := by unfold cmpI; split <;> (try split) <;> omega
theorem cmpI_eq {x y : Int} : cmpI x y = 0 ↔ x = y := by unfold cmpI; split <;> (try split) <;> omega
set_option maxHeartbeats 1600000 in
set_option maxRecDepth 100000 in
/-- slices.BinarySearchFunc with find's own comparison, of a list of which the first n lie ahead of the block -/
theorem search_any (l : List HI) (b : Int) (n : Nat) (hn : n ≤ l.length) (hA : ∀ h ∈ l.take n, h.b < b) (hB : ∀ h ∈ l.drop n, b ≤ h.b) (w : World) (v : Value) (hv : SR w v 3 l.length (hCells l)) (hl : l.length ≤ 1000000) :
    Calls Try.prog 91 #[v, .int .i64 b, .func (.func 92) #[] #[]] w fun e w' =>
      e = .returned (.tuple #[.int .i64 n, .bool (decide (n < l.length) && decide (l[n]!.b = b))]) ∧ Below w.heap.size w w' := by
  obtain ⟨a, cap, rfl, hlc, hcm⟩ := hv.form
  unfold maxLen at hcm
  have eg : ∀ args w, (callFunc 92 args).run Try.prog w = .ok (.enter 92 args) w := fun _ _ => by rfl
  have HV := Lib.hid hv
  have hA' : ∀ t, t < n → l[t]!.b < b := fun t ht => by
    have ht2 : t < l.length := by omega
    rw [getElem!_pos l t ht2]
    exact hA _ (List.mem_take_iff_getElem.2 ⟨t, by omega, rfl⟩)
  have hB' : ∀ t, n ≤ t → t < l.length → b ≤ l[t]!.b := fun t h1 h2 => by
    rw [getElem!_pos l t h2]
    refine hB _ (List.mem_drop_iff_getElem.2 ⟨t - n, by omega, ?_⟩)
    congr 1
    omega
  have HA := Lib.hid hA'
  have HB := Lib.hid hB'
  obtain ⟨fin, hfin⟩ : ∃ fin, (decide (n < l.length) && decide (l[n]!.b = b)) = fin := ⟨_, rfl⟩
  rw [hfin]
  have FIN := Lib.hid hfin
  clear hv hA hB hA' hB' hfin
  go_enter Try.func91, Try.ntmps91
  go_wp2_with fail
  go_loopw [9, 10] (fun s9 s10 wr => ∃ lo hi : Nat, s9 = .int .i64 lo ∧ s10 = .int .i64 hi ∧ lo ≤ n ∧ n ≤ hi ∧ hi ≤ l.length ∧ Below w.heap.size w wr) (fun s9 s10 _ => (intOf s10).toNat - (intOf s9).toNat)
  case atStart => exact ⟨0, l.length, rfl, rfl, by omega, hn, Nat.le_refl _, Below.refl _ _⟩
  case round =>
    obtain ⟨lo, hi, rfl, rfl, hlo, hhi, hhl, hb⟩ := hrel
    have HBr := Lib.hid hb
    have hsr := HV.out.below hb
    clear hb
    by_cases hlt : lo < hi
    · obtain ⟨blk, off, rfl, hblk, -, hc⟩ := sr_block_held hsr (by omega)
      obtain ⟨x, hx⟩ : ∃ x, l[(lo + hi) / 2]? = some x := ⟨_, List.getElem?_eq_getElem (by omega)⟩
      obtain ⟨c0, c1, c2⟩ := hc _ _ hx
      have hxx : l[(lo + hi) / 2]! = x := by rw [getElem!_pos l _ (by omega)]; rw [List.getElem?_eq_getElem (by omega)] at hx; exact Option.some.inj hx
      have HX := Lib.hid hxx
      clear hc hx hxx hsr
      have hcl := fun w => find_clos x b w
      by_cases hyx : cmpI x.b b < 0
      · have hq : (lo + hi) / 2 < n := by
          rcases Nat.lt_or_ge ((lo + hi) / 2) n with h | h
          · exact h
          · have := HB.out _ h (by omega)
            rw [HX.out] at this
            rw [cmpI_lt] at hyx
            omega
        go_wp2_with fail
        refine Calls.mono (hcl _) ?_
        rintro e w' ⟨rfl, hb2⟩
        have HB2 := Lib.hid hb2
        clear hb2
        go_wp2_with fail
        go_roundw
        case rel => exact ⟨(lo + hi) / 2 + 1, hi, by go_num, rfl, by omega, hhi, hhl, HBr.out.trans (HB2.out.mono HBr.out.size)⟩
        case measure => simp [intOf]; omega
      · have hq : n ≤ (lo + hi) / 2 := by
          rcases Nat.lt_or_ge ((lo + hi) / 2) n with h | h
          · have := HA.out _ h
            rw [HX.out] at this
            rw [cmpI_lt] at hyx
            omega
          · exact h
        go_wp2_with fail
        refine Calls.mono (hcl _) ?_
        rintro e w' ⟨rfl, hb2⟩
        have HB2 := Lib.hid hb2
        clear hb2
        go_wp2_with fail
        go_roundw
        case rel => exact ⟨lo, (lo + hi) / 2, rfl, by go_num, by omega, by omega, by omega, HBr.out.trans (HB2.out.mono HBr.out.size)⟩
        case measure => simp [intOf]; omega
    · obtain rfl : lo = n := by omega
      obtain rfl : hi = lo := by omega
      by_cases hin : hi < l.length
      · obtain ⟨blk, off, rfl, hblk, -, hc⟩ := sr_block_held hsr (by omega)
        obtain ⟨x, hx⟩ : ∃ x, l[hi]? = some x := ⟨_, List.getElem?_eq_getElem (by omega)⟩
        obtain ⟨c0, c1, c2⟩ := hc _ _ hx
        have hxx : l[hi]! = x := by rw [getElem!_pos l _ (by omega)]; rw [List.getElem?_eq_getElem (by omega)] at hx; exact Option.some.inj hx
        have HX := Lib.hid hxx
        clear hc hx hxx hsr
        have hcl := fun w => find_clos x b w
        have hf : fin = (cmpI x.b b == 0) := by rw [← FIN.out, HX.out, Bool.eq_iff_iff]; simp [hin, cmpI_eq]
        subst hf
        go_wp2_with fail
        refine Calls.mono (hcl _) ?_
        rintro e w' ⟨rfl, hb2⟩
        have HB2 := Lib.hid hb2
        clear hb2
        go_wp2_with fail
        go_returns
        exact ⟨rfl, HBr.out.trans (HB2.out.mono HBr.out.size)⟩
      · have hf : fin = false := by rw [← FIN.out]; simp [hin]
        subst hf
        go_wp2_with fail
        go_returns
        exact ⟨rfl, HBr.out⟩
end Go.Proofs.Ytfgmeeponipjeaa
/-
  slices.Insert of one item, slices.Delete of one, at rows of items of the call's own.
-/




namespace Go.Proofs.Ytfgmeeponipjeaa
open Go.RowKit
set_option linter.unusedVariables false
set_option linter.unusedSimpArgs false

theorem info_held : (Try.prog.info? 131).map (fun i => (i.zero, i.size, i.bytes)) = some (some (.agg #[.int .i64 0, .int .u64 0, .string ⟨#[]⟩]), 3, 32) := by kernel_rfl
theorem size_held : (Try.prog.info? 131).map (·.size) = some 3 := by kernel_rfl
theorem shift_cells {a b r x : List Value} {k : Nat} (hk : k = a.length) (hx : x.length = 3) (hr : 3 ≤ r.length) :
    let cur := a ++ b ++ r
    let cur1 := cur.take (k + 3) ++ b ++ cur.drop (k + 3 + b.length)
    cur1.take k ++ x ++ cur1.drop (k + x.length) = a ++ x ++ b ++ cur.drop (k + 3 + b.length) := by
  subst hk
  intro cur cur1
  have hl : (cur.take (a.length + 3)).length = a.length + 3 := by
    simp only [cur, List.length_take, List.length_append]; omega
  have h1 : cur1.take a.length = a := by
    simp only [cur1, List.append_assoc]
    rw [List.take_append_of_le_length (by omega), List.take_take, Nat.min_eq_left (by omega)]
    simp [cur]
  have h2 : cur1.drop (a.length + x.length) = b ++ cur.drop (a.length + 3 + b.length) := by
    simp only [cur1, List.append_assoc]
    rw [hx, List.drop_left' hl]
  rw [h1, h2, List.append_assoc, List.append_assoc, List.append_assoc]
theorem hcs_len (x : HI) : (hCells [x]).length = 3 := rfl
theorem hCells_put (A B : List HI) (x : HI) : hCells (A ++ x :: B) = hCells A ++ hCells [x] ++ hCells B := by
  rw [hCells_append]; simp [hCells]
/-- one item that was laid just now -/
def OneAt (w : World) (b : Nat) (x : HI) : Prop := w.heap[b]? = some (.cells #[.int .i64 x.b, .int .u64 x.v, .string x.d] 131)
theorem OneAt.cells {w : World} {b : Nat} {x : HI} (h : OneAt w b x) : ∀ j u, (hCells [x])[j]? = some u → w.cell? ((⟨b, 0, none⟩ : Addr).add j) = some u := by
  intro j u hj
  rw [add_off, Nat.zero_add]
  unfold OneAt at h
  match j, hj with
  | 0, hj => simpa [World.cell?, h, hCells] using hj
  | 1, hj => simpa [World.cell?, h, hCells] using hj
  | 2, hj => simpa [World.cell?, h, hCells] using hj
  | j + 3, hj => simp [hCells] at hj
set_option maxHeartbeats 4000000 in
set_option maxRecDepth 100000 in
theorem insert_end (A : List HI) (x : HI) (w : World) (N : Nat) (v : Value) (hv : w.ownsRow N 131 3 v A.length (hCells A)) (vb : Nat) (hx : OneAt w vb x) (hl : A.length ≤ 1000000) (hN : N ≤ w.heap.size) :
    Calls Try.prog 77 #[v, .int .i64 A.length, .slice (some ⟨vb, 0, none⟩) 1 1] w fun e w' =>
      ∃ v', e = .returned v' ∧ w'.ownsRow N 131 3 v' (A.length + 1) (hCells (A ++ [x])) ∧ w.grownBy w' v.ownBlock ∧ NewRow w v v' := by
  obtain ⟨i0, hi, hz0, hz1, hz2⟩ := info_parts info_held
  have hrun : ∀ ty, ∃ v' w', (Builtin.append_ #[120, 120] ty #[v, .slice (some ⟨vb, 0, none⟩) 1 1]).run Try.prog w = .ok v' w' ∧ w'.ownsRow N 131 3 v' (A.length + 1) (hCells (A ++ [x])) ∧ w.grownBy w' v.ownBlock ∧ NewRow w v v' := fun ty => by
    obtain ⟨v', w', h1, h2, h3, _, h5⟩ := run_append_own_at (P := Try.prog) w N 120 ty 131 i0 _ 3 32 Try.underlying120 hi hz0 hz1 hz2 rfl (by decide) v A.length (hCells A) hv ⟨vb, 0, none⟩ 1 1 (hCells [x]) rfl hx.cells (hCells_one _) (by unfold maxLen; omega) (by omega) hN
    refine ⟨v', w', h1, by rw [hCells_append]; exact h2, h3, ?_⟩
    rcases h5 with h5 | h5
    · exact .inl h5
    · exact .inr fun k e => by rw [h5] at e; cases e; exact Nat.le_refl _
  obtain ⟨a, cap, rfl, hlc, hcm⟩ := (SR.owns hv).form
  unfold maxLen at hcm
  clear hv hx hi hz0 hz1 hz2
  go_enter Try.func77, Try.ntmps77
  go_wp2_with (at_builtin; obtain ⟨v', w', h1, h2⟩ := hrun _; refine Lib.wpList_append_run _ rfl _ _ _ _ rfl _ _ rfl rfl _ _ h1 ?_)
  all_goals (first | (go_ret; exact ⟨_, rfl, h2⟩) | (subst h; go_ret; exact ⟨_, rfl, h2⟩))
theorem overlaps_apart (w : World) (g vb k : Nat) (cur : Array Value) (hg : w.heap[g]? = some (.cells cur 131 (0, 0))) (x : HI) (hx : OneAt w vb x) (hne : vb ≠ g) (hc : cur.size ≠ 0) (lb cb : Nat) :
    (callFunc 94 #[.slice (some ⟨vb, 0, none⟩) 1 1, .slice (some ⟨g, k, none⟩) lb cb]).run Try.prog w = .ok (.value (.bool false)) w := by
  have hsz : ∀ w, (Go.sizeOf 131).run Try.prog w = .ok 3 w := by
    intro w
    obtain ⟨i0, hi, hz0, hz1, hz2⟩ := info_parts info_held
    simp [Go.sizeOf, typeInfo, hi, hz1]
  unfold OneAt at hx
  rw [run_callFunc_extern Try.func94 (by kernel_rfl) (by kernel_rfl) (by kernel_rfl) (e := Extern.SlicesOverlaps.overlaps #[120, 120] #[4]) (by kernel_rfl),
    Lib.run_overlaps_apart w 120 4 131 Try.underlying120 3 hsz ⟨vb, 0, none⟩ ⟨g, k, none⟩ 1 1 lb cb hne 131 131 3 cur.size (by simp [World.shape?, hx]) (by simp [World.shape?, hg]) hc (by simp [World.frozen?, hx]) (by simp [World.frozen?, hx])]
  rfl
theorem hCells_ne (B : List HI) (h : B ≠ []) : 0 < B.length := List.length_pos_iff.2 h
set_option maxHeartbeats 4000000 in
set_option maxRecDepth 100000 in
theorem insert_room (A B : List HI) (x : HI) (w : World) (g n cap : Nat) (cur : Array Value) (hn : n = A.length + B.length) (hg : w.heap[g]? = some (.cells cur 131 (0, 0))) (hB : 0 < B.length) (hroom : n + 1 ≤ cap) (hcm : cap ≤ maxLen)
    (hcs : cur.size = cap * 3) (ht : cur.toList.take (n * 3) = hCells (A ++ B)) (vb : Nat) (hx : OneAt w vb x) (hne : vb ≠ g) (hl : n ≤ 1000000) :
    Calls Try.prog 77 #[.slice (some ⟨g, 0, none⟩) n cap, .int .i64 A.length, .slice (some ⟨vb, 0, none⟩) 1 1] w fun e w' =>
      e = .returned (.slice (some ⟨g, 0, none⟩) (n + 1) cap) ∧ w.grownBy w' (some g) ∧ ∃ cur' : Array Value, w'.heap[g]? = some (.cells cur' 131 (0, 0)) ∧ cur'.size = cap * 3 ∧ cur'.toList.take ((n + 1) * 3) = hCells (A ++ x :: B) := by
  obtain ⟨i, hi⟩ : ∃ i, i = A.length := ⟨_, rfl⟩
  have hov := fun lb cb => overlaps_apart w g vb ((i + 1) * 3) cur hg x hx hne (by omega) lb cb
  -- the cells
  obtain ⟨R, hR⟩ : ∃ R, R = cur.toList.drop (n * 3) := ⟨_, rfl⟩
  have hcl : cur.toList = hCells A ++ hCells B ++ R := by rw [hR, ← hCells_append, ← ht, List.take_append_drop]
  have hRl : R.length = cap * 3 - n * 3 := by rw [hR, List.length_drop, Array.length_toList, hcs]
  have hAl : (hCells A).length = i * 3 := by rw [hCells_length, hi]
  have hBl : (hCells B).length = B.length * 3 := hCells_length B
  obtain ⟨C1, hC1⟩ : ∃ C1 : List Value, C1 = cur.toList.take ((i + 1) * 3) ++ hCells B ++ cur.toList.drop ((i + 1) * 3 + (hCells B).length) := ⟨_, rfl⟩
  have hC1l : C1.length = cap * 3 := by
    rw [hC1]; simp only [List.length_append, List.length_take, List.length_drop, Array.length_toList, hcs, hBl]; omega
  have hsh := shift_cells (a := hCells A) (b := hCells B) (r := R) (x := hCells [x]) (k := i * 3) hAl.symm (hcs_len x) (by omega)
  simp only [← hcl, show i * 3 + 3 = (i + 1) * 3 by omega] at hsh
  rw [← hC1] at hsh
  obtain ⟨C2, hC2⟩ : ∃ C2 : List Value, C2 = C1.take (i * 3) ++ hCells [x] ++ C1.drop (i * 3 + (hCells [x]).length) := ⟨_, rfl⟩
  rw [← hC2] at hsh
  have hC2l : C2.length = cap * 3 := by
    rw [hC2]; simp only [List.length_append, List.length_take, List.length_drop, hC1l, hcs_len]; omega
  have hcp1 : ∀ ty dc sc, (Builtin.copy_ #[120, 120] ty #[.slice (some ⟨g, (i + 1) * 3, none⟩) (n - i) dc, .slice (some ⟨g, i * 3, none⟩) (n + 1 - i) sc]).run Try.prog w.drew = .ok (goInt B.length) (w.drew.setRow g C1.toArray) := fun ty dc sc => by
    rw [hC1]
    refine run_copy_own w.drew _ _ ty 131 3 Try.underlying120 size_held g ((i + 1) * 3) (n - i) dc 131 cur hg ⟨g, i * 3, none⟩ (n + 1 - i) sc (hCells B) B.length ?_ hBl ?_ ?_ (hCells_one _)
    · simp only [Nat.min_def]; split <;> omega
    · intro j u hj
      rw [add_off]
      have hjl := (List.getElem?_eq_some_iff.1 hj).1
      show w.cell? _ = _
      have h2 : cur.toList[i * 3 + j]? = some u := by
        rw [hcl, List.append_assoc, List.getElem?_append_right (by omega), hAl, Nat.add_sub_cancel_left, List.getElem?_append_left hjl, hj]
      simpa [World.cell?, hg] using h2
    · rw [hcs, hBl]; omega
  have hg1 : (w.drew.setRow g C1.toArray).heap[g]? = some (.cells C1.toArray 131 (0, 0)) := setRow_heap w.drew g cur _ _ _ hg
  obtain ⟨W1, hW1⟩ : ∃ W1, W1 = w.drew.setRow g C1.toArray := ⟨_, rfl⟩
  rw [← hW1] at hcp1 hg1
  have hgr1 : w.grownBy W1 (some g) := by rw [hW1]; exact grown_setRow (World.grownBy.refl w _) (.inl rfl) _ |> fun h => ⟨h.os, h.tape, h.output, h.size, h.block⟩
  have hx1 : OneAt W1 vb x := (hgr1.block vb (lt_heap hx) (by simpa using hne)).trans hx
  have hcp2 : ∀ (W : World), W.heap = W1.heap → ∀ ty dc, (Builtin.copy_ #[120, 120] ty #[.slice (some ⟨g, i * 3, none⟩) (n + 1 - i) dc, .slice (some ⟨vb, 0, none⟩) 1 1]).run Try.prog W = .ok (goInt 1) (W.setRow g C2.toArray) := fun W hW ty dc => by
    rw [hC2]
    have := run_copy_own (P := Try.prog) W 120 120 ty 131 3 Try.underlying120 size_held g (i * 3) (n + 1 - i) dc 131 C1.toArray (by rw [hW]; exact hg1) ⟨vb, 0, none⟩ 1 1 (hCells [x]) 1 (by simp only [Nat.min_def]; split <;> omega) (hcs_len x) (fun j u hj => by have := hx1.cells j u hj; simpa [World.cell?, hW] using this) (by simp only [List.size_toArray, hC1l, hcs_len]; omega) (hCells_one _)
    simpa using this
  have hfin : ∀ W : World, W.heap = W1.heap → W.os = W1.os → W.tape = W1.tape → W.output = W1.output → w.grownBy (W.setRow g C2.toArray) (some g) ∧ ∃ cur' : Array Value, (W.setRow g C2.toArray).heap[g]? = some (.cells cur' 131 (0, 0)) ∧ cur'.size = cap * 3 ∧ cur'.toList.take ((n + 1) * 3) = hCells (A ++ x :: B) := fun W h1 h2 h3 h4 => by
    refine ⟨grown_setRow ⟨h2.trans hgr1.os, h3.trans hgr1.tape, h4.trans hgr1.output, by rw [h1]; exact hgr1.size, fun k hk hr => by rw [h1]; exact hgr1.block k hk hr⟩ (.inl rfl) _, C2.toArray, setRow_heap W g _ _ _ _ (by rw [h1]; exact hg1), by simpa using hC2l, ?_⟩
    show C2.take _ = _
    rw [hsh, hCells_put, List.take_left' (by simp only [List.length_append, hAl, hBl, hcs_len]; omega)]
  have HF := Lib.hid hfin
  have hz1 : ¬ ((i : Int) = (n : Int)) := by omega
  have hw1 : IntKind.i64.wrap ((i : Int) + 1) = (i : Int) + 1 := by rw [IntKind.wrap_i64]; omega
  have hw2 : IntKind.i64.wrap ((n : Int) + 1) = (n : Int) + 1 := by rw [IntKind.wrap_i64]; omega
  have htn : ((i : Int) + 1).toNat = i + 1 := by omega
  have htn2 : ((n : Int) + 1).toNat = n + 1 := by omega
  have hin : i ≤ n := by omega
  have hb1 : (0 : Int) ≤ (i : Int) + 1 := by omega
  have hb3 : (i : Int) ≤ (n : Int) + 1 := by omega
  have hb2 : ¬ (cap = i + 1) := by omega
  have hb4 : ¬ (cap = i) := by omega
  unfold maxLen at hcm
  clear hfin hsh hC2 hC1 hg1 hgr1 hx1 hcl hR hRl hAl hBl hC1l hC2l ht hcs hg hx
  rw [← hi]
  have hlt : i < n := by omega
  have hnc : n ≤ cap := by omega
  have mixed : Try.prog.follows Departure.mixedOrders = true := by kernel_rfl
  clear hi hn
  go_enter Try.func77, Try.ntmps77
  go_wp2_with (simp only [hov])
  go_region_law_o (refine step_copy_runI rfl _ _ 120 120 rfl _ _ (by simp [Act.eval, Act.put]) (by simp [Act.eval, Act.put]) (hcp1 _ _ _) ?_)
  go_wp2_with (at_builtin; refine wpList_copy_runI _ rfl _ _ 120 120 rfl _ _ rfl rfl (hcp2 _ rfl _ _) ?_)
  go_ret
  exact ⟨rfl, HF.out _ (by rw [hW1]) (by rw [hW1]) (by rw [hW1]) (by rw [hW1])⟩
theorem zero_cells (k : Nat) : (Builtin.zeroCells (Value.agg #[.int .i64 0, .int .u64 0, .string ⟨#[]⟩]).cells k).size = k * 3 := by simp [Builtin.zeroCells, Value.cells]
set_option maxHeartbeats 4000000 in
set_option maxRecDepth 100000 in
theorem insert_grow (A B : List HI) (x : HI) (w : World) (N : Nat) (g n cap : Nat) (cur : Array Value) (hn : n = A.length + B.length) (hg : w.heap[g]? = some (.cells cur 131 (0, 0))) (hB : 0 < B.length) (hnc : n ≤ cap) (hroom : cap < n + 1) (hcm : cap ≤ maxLen)
    (hcs : cur.size = cap * 3) (ht : cur.toList.take (n * 3) = hCells (A ++ B)) (vb : Nat) (hx : OneAt w vb x) (hl : n ≤ 1000000) (hN : N ≤ w.heap.size) :
    Calls Try.prog 77 #[.slice (some ⟨g, 0, none⟩) n cap, .int .i64 A.length, .slice (some ⟨vb, 0, none⟩) 1 1] w fun e w' =>
      ∃ v', e = .returned v' ∧ w'.ownsRow N 131 3 v' (n + 1) (hCells (A ++ x :: B)) ∧ w.grownBy w' none ∧ v'.ownBlock = some w.heap.size := by
  obtain ⟨i0, hi0, hz0, hz1, hz2⟩ := info_parts info_held
  obtain ⟨i, hi⟩ : ∃ i, i = A.length := ⟨_, rfl⟩
  have hAl : (hCells A).length = i * 3 := by rw [hCells_length, hi]
  have hBl : (hCells B).length = B.length * 3 := hCells_length B
  obtain ⟨R, hR⟩ : ∃ R, R = cur.toList.drop (n * 3) := ⟨_, rfl⟩
  have hcl : cur.toList = hCells A ++ hCells B ++ R := by rw [hR, ← hCells_append, ← ht, List.take_append_drop]
  have hread : ∀ (j : Nat) u, (hCells A ++ hCells B)[j]? = some u → w.cell? ⟨g, j, none⟩ = some u := fun j u hj => by
    have h2 : cur.toList[j]? = some u := by rw [hcl, List.getElem?_append_left (List.getElem?_eq_some_iff.1 hj).1, hj]
    simpa [World.cell?, hg] using h2
  obtain ⟨G, hG⟩ : ∃ G, G = grownCap w (n + 1) cap 131 := ⟨_, rfl⟩
  have hGn : n + 1 ≤ G := by rw [hG]; exact grownCap_ge w _ _ _
  have hGm : G ≤ maxLen := by rw [hG]; exact grownCap_le_maxLen w _ _ _ (by unfold maxLen; omega)
  obtain ⟨ROW, hROW⟩ : ∃ ROW : Array Value, ROW = (hCells A).toArray ++ Builtin.zeroCells (Value.agg #[.int .i64 0, .int .u64 0, .string ⟨#[]⟩]).cells (n + 1 - i) ++ Builtin.zeroCells (Value.agg #[.int .i64 0, .int .u64 0, .string ⟨#[]⟩]).cells (G - (n + 1)) := ⟨_, rfl⟩
  have hRs : ROW.size = G * 3 := by
    rw [hROW]; simp only [Array.size_append, List.size_toArray, zero_cells, hAl]; omega
  have hRt : ROW.toList.take (i * 3) = hCells A := by
    rw [hROW]
    simp only [Array.toList_append, List.append_assoc]
    exact List.take_left' hAl
  have hold : (Builtin.firstCells i0.size i (.slice (some ⟨g, 0, none⟩) i cap)).run Try.prog w.drew = .ok (hCells A).toArray w.drew := by
    rw [hz1]
    exact run_firstCells_some w.drew 3 i ⟨g, 0, none⟩ i cap (hCells A) hAl (fun j u hj => by
      rw [add_off, Nat.zero_add]
      exact hread j u (by rw [List.getElem?_append_left (List.getElem?_eq_some_iff.1 hj).1, hj]))
  have hrz : ∀ ty, (Builtin.append_ #[120, 3] ty #[.slice (some ⟨g, 0, none⟩) i cap, .int .i64 ((n : Int) + 1 - (i : Int))]).run Try.prog w =
      .ok (.slice (some ⟨w.heap.size, 0, none⟩) (n + 1) G) (w.drew.alloc (.cells ROW 131)) := fun ty => by
    have h := Lib.run_append_grow_zeros (P := Try.prog) w 120 3 ty 131 i0 _ .i64 .i64 Try.underlying120 Try.underlying3 hi0 hz0 (some ⟨g, 0, none⟩) i cap (hCells A) hold (n + 1 - i) (by omega) (by rw [hz1]; decide) (by omega) (by omega) (by rw [hz2]; omega) (by rw [hz2, show i + (n + 1 - i) = n + 1 by omega]; exact growslice_fits hroom (by omega))
    rw [show i + (n + 1 - i) = n + 1 by omega, ← hG, ← hROW] at h
    rw [show (n : Int) + 1 - (i : Int) = ((n + 1 - i : Nat) : Int) by omega]
    exact h
  obtain ⟨W1, hW1⟩ : ∃ W1, W1 = w.drew.alloc (.cells ROW 131) := ⟨_, rfl⟩
  rw [← hW1] at hrz
  obtain ⟨S, hS⟩ : ∃ S, S = w.heap.size := ⟨_, rfl⟩
  rw [← hS] at hrz
  have hgS : g < S := by rw [hS]; exact lt_heap hg
  have hvS : vb < S := by rw [hS]; exact lt_heap hx
  have hg1 : W1.heap[S]? = some (.cells ROW 131 (0, 0)) := by rw [hW1, hS]; exact heap_alloc_self w.drew _
  have hk1 : ∀ k, k < S → W1.heap[k]? = w.heap[k]? := fun k hk => by rw [hW1]; exact Below.heap_alloc w.drew _ k (by show k < w.heap.size; omega)
  have hr1 : ∀ (j : Nat) u, (hCells A ++ hCells B)[j]? = some u → W1.cell? ⟨g, j, none⟩ = some u := fun j u hj => by
    have := hread j u hj
    simp only [World.cell?] at this ⊢
    rw [hk1 g hgS]; exact this
  have hx1 : OneAt W1 vb x := (hk1 vb hvS).trans hx
  obtain ⟨C1, hC1⟩ : ∃ C1 : List Value, C1 = ROW.toList.take (i * 3) ++ hCells [x] ++ ROW.toList.drop (i * 3 + (hCells [x]).length) := ⟨_, rfl⟩
  have hC1l : C1.length = G * 3 := by
    rw [hC1]; simp only [List.length_append, List.length_take, List.length_drop, Array.length_toList, hRs, hcs_len]; omega
  have hcpA : ∀ (W : World), W.heap = W1.heap → ∀ ty dc, (Builtin.copy_ #[120, 120] ty #[.slice (some ⟨S, i * 3, none⟩) (n + 1 - i) dc, .slice (some ⟨vb, 0, none⟩) 1 1]).run Try.prog W = .ok (goInt 1) (W.setRow S C1.toArray) := fun W hW ty dc => by
    rw [hC1]
    exact run_copy_own (P := Try.prog) W 120 120 ty 131 3 Try.underlying120 size_held S (i * 3) (n + 1 - i) dc 131 ROW (by rw [hW]; exact hg1) ⟨vb, 0, none⟩ 1 1 (hCells [x]) 1 (by simp only [Nat.min_def]; split <;> omega) (hcs_len x) (fun j u hj => by have := hx1.cells j u hj; simpa [World.cell?, hW] using this) (by simp only [hRs, hcs_len]; omega) (hCells_one _)
  obtain ⟨C2, hC2⟩ : ∃ C2 : List Value, C2 = C1.take ((i + 1) * 3) ++ hCells B ++ C1.drop ((i + 1) * 3 + (hCells B).length) := ⟨_, rfl⟩
  have hC2l : C2.length = G * 3 := by
    rw [hC2]; simp only [List.length_append, List.length_take, List.length_drop, hC1l, hBl]; omega
  have hcpB : ∀ (W : World), W.heap = (W1.setRow S C1.toArray).heap → ∀ ty dc sc, (Builtin.copy_ #[120, 120] ty #[.slice (some ⟨S, (i + 1) * 3, none⟩) (n - i) dc, .slice (some ⟨g, i * 3, none⟩) (n - i) sc]).run Try.prog W = .ok (goInt B.length) (W.setRow S C2.toArray) := fun W hW ty dc sc => by
    rw [hC2]
    have := run_copy_own (P := Try.prog) W 120 120 ty 131 3 Try.underlying120 size_held S ((i + 1) * 3) (n - i) dc 131 C1.toArray (by rw [hW]; exact setRow_heap W1 S ROW _ _ _ hg1) ⟨g, i * 3, none⟩ (n - i) sc (hCells B) B.length (by simp only [Nat.min_def]; split <;> omega) hBl (fun j u hj => by
      rw [add_off]
      have h3 := hr1 (i * 3 + j) u (by rw [List.getElem?_append_right (by omega), hAl, Nat.add_sub_cancel_left, hj])
      simp only [World.cell?] at h3 ⊢
      rw [hW, setRow_other _ _ _ _ (show g ≠ S by omega)]
      exact h3) (by simp only [List.size_toArray, hC1l, hBl]; omega) (hCells_one _)
    simpa using this
  have hT1 : C1.take ((i + 1) * 3) = hCells A ++ hCells [x] := by
    rw [hC1, hRt]
    exact List.take_left' (by simp only [List.length_append, hAl, hcs_len]; omega)
  have hfin : ∀ W : World, W.heap = (W1.setRow S C1.toArray).heap → W.os = w.os → W.tape = w.tape → W.output = w.output → (W.setRow S C2.toArray).ownsRow N 131 3 (.slice (some ⟨S, 0, none⟩) (n + 1) G) (n + 1) (hCells (A ++ x :: B)) ∧ w.grownBy (W.setRow S C2.toArray) none := fun W h1 h2 h3 h4 => by
    refine ⟨own_of (by omega) (setRow_heap W S C1.toArray _ 131 (0, 0) (by rw [h1]; exact setRow_heap W1 S ROW _ _ _ hg1)) (by omega) hGm (by simpa using hC2l) (by rw [hCells_length]; simp; omega) ?_, ⟨h2, h3, h4, ?_, fun k hk _ => ?_⟩⟩
    · show C2.take _ = _
      rw [hC2, hT1, hCells_put]
      exact List.take_left' (by simp only [List.length_append, hAl, hBl, hcs_len]; omega)
    · rw [heap_size_setRow, h1, heap_size_setRow, hW1]; simp
    · rw [setRow_other _ _ _ _ (by omega), h1, setRow_other _ _ _ _ (by omega), hk1 k (by omega)]
  have HF := Lib.hid hfin
  have HS := Lib.hid hS
  have hz1' : ¬ ((i : Int) = (n : Int)) := by omega
  have hw1 : IntKind.i64.wrap ((i : Int) + 1) = (i : Int) + 1 := by rw [IntKind.wrap_i64]; omega
  have hw2 : IntKind.i64.wrap ((n : Int) + 1) = (n : Int) + 1 := by rw [IntKind.wrap_i64]; omega
  have hw3 : IntKind.i64.wrap ((n : Int) + 1 - (i : Int)) = (n : Int) + 1 - (i : Int) := by rw [IntKind.wrap_i64]; omega
  have htn : ((i : Int) + 1).toNat = i + 1 := by omega
  have htn2 : ((n : Int) + 1).toNat = n + 1 := by omega
  have hin : i ≤ n := by omega
  have hlt : i < n := by omega
  have hb1 : (0 : Int) ≤ (i : Int) + 1 := by omega
  have hb3 : (i : Int) ≤ (n : Int) + 1 := by omega
  have hb5 : (cap : Int) < (n : Int) + 1 := by omega
  have hb6 : (i : Int) ≤ (n : Int) := by omega
  have hci : ¬ (cap = i) := by omega
  have hGi : ¬ (G = i) := by omega
  have hGim : ¬ (G = i + 1) := by omega
  have mixed : Try.prog.follows Departure.mixedOrders = true := by kernel_rfl
  unfold maxLen at hcm hGm
  rw [← hi]
  rw [← hS]
  have HW1 := Lib.hid hW1
  clear hW1 hS hfin hi hn hT1 hC2 hC1 hg1 hx1 hr1 hk1 hcl hR hAl hBl hC1l hC2l ht hcs hg hx hRs hRt hROW hold hread hG
  go_enter Try.func77, Try.ntmps77
  go_wp2_with (first
    | (at_builtin; refine Lib.wpList_append_run _ rfl _ _ _ _ rfl _ _ rfl rfl _ _ (hrz _) ?_)
    | (at_builtin; refine wpList_copy_runI _ rfl _ _ 120 120 rfl _ _ rfl rfl (hcpA _ rfl _ _) ?_))
  go_region_law_o (refine step_copy_runI rfl _ _ 120 120 rfl (.slice (some ⟨S, (i + 1) * 3, none⟩) (n - i) (G - (i + 1))) (.slice (some ⟨g, i * 3, none⟩) (n - i) (cap - i)) (by simp [Act.eval, Act.put]) (by simp [Act.eval, Act.put]) (hcpB (W1.setRow S C1.toArray).drew rfl _ _ _) ?_)
  go_wp2
  go_ret
  have HQ := HF.out (W1.setRow S C1.toArray).drew rfl (by rw [HW1.out]; rfl) (by rw [HW1.out]; rfl) (by rw [HW1.out]; rfl)
  exact ⟨_, rfl, HQ.1, HQ.2, rfl⟩
section
variable {P : Program}
/-- an append whose run is known, as one step of a region that draws -/
theorem step_append_run {ops : Array Oper} {o : Oper} {a : Act} {w : World} {K : Act → World → Prop} {Q : Exit → Act → World → Prop} {E : Prop}
    (hg : o.guard = none) (s x : Operand) (t tn : TypeId) (hop : o.op = Op.call { callee := Callee.builtin Builtin.append, args := #[s, x], argTypes := #[t, tn] })
    (v u : Value) (hd : a.eval s = v) (hx : a.eval x = u) {v' : Value} {w' : World} (hr : (Builtin.append_ #[t, tn] o.type #[v, u]).run P w = .ok v' w') (hK : K (a.put o.dst v') w') :
    if Region.wanted o (yielded ops a.tmps) = true then Oper.wp P o a w K Q else E := by
  have hw : Region.wanted o (yielded ops a.tmps) = true := by simp [Region.wanted, hg]
  rw [if_pos hw]
  unfold Oper.wp
  simp [execOp, hop, resolve, invoke, builtin, hd, hx, hr, Result.andThen]
  exact hK
end
set_option maxHeartbeats 4000000 in
set_option maxRecDepth 100000 in
theorem delete_any (A B : List HI) (y : HI) (w : World) (g n cap : Nat) (cur : Array Value) (hn : n = A.length + 1 + B.length) (hg : w.heap[g]? = some (.cells cur 131 (0, 0))) (hroom : n ≤ cap) (hcm : cap ≤ maxLen)
    (hcs : cur.size = cap * 3) (ht : cur.toList.take (n * 3) = hCells (A ++ y :: B)) (hl : n ≤ 1000000) :
    Calls Try.prog 81 #[.slice (some ⟨g, 0, none⟩) n cap, .int .i64 A.length, .int .i64 ((A.length : Int) + 1)] w fun e w' =>
      e = .returned (.slice (some ⟨g, 0, none⟩) (n - 1) cap) ∧ w.grownBy w' (some g) ∧ ∃ cur' : Array Value, w'.heap[g]? = some (.cells cur' 131 (0, 0)) ∧ cur'.size = cap * 3 ∧ cur'.toList.take ((n - 1) * 3) = hCells (A ++ B) := by
  obtain ⟨i0, hi0, hz0, hz1, hz2⟩ := info_parts info_held
  obtain ⟨i, hi⟩ : ∃ i, i = A.length := ⟨_, rfl⟩
  obtain ⟨R, hR⟩ : ∃ R, R = cur.toList.drop (n * 3) := ⟨_, rfl⟩
  have hcl : cur.toList = hCells A ++ hCells [y] ++ hCells B ++ R := by rw [hR, ← hCells_put, ← ht, List.take_append_drop]
  have hAl : (hCells A).length = i * 3 := by rw [hCells_length, hi]
  have hBl : (hCells B).length = B.length * 3 := hCells_length B
  obtain ⟨C1, hC1⟩ : ∃ C1 : List Value, C1 = cur.toList.take (i * 3) ++ hCells B ++ cur.toList.drop (i * 3 + (hCells B).length) := ⟨_, rfl⟩
  have hC1l : C1.length = cap * 3 := by
    rw [hC1]; simp only [List.length_append, List.length_take, List.length_drop, Array.length_toList, hcs, hBl]; omega
  have hT1 : C1.take ((n - 1) * 3) = hCells (A ++ B) := by
    rw [hC1, hCells_append]
    have h0 : cur.toList.take (i * 3) = hCells A := by rw [hcl]; simp only [List.append_assoc]; exact List.take_left' hAl
    rw [h0]
    exact List.take_left' (by simp only [List.length_append, hAl, hBl]; omega)
  obtain ⟨Ad, hA, hsrc⟩ : ∃ Ad : Addr, (if cap = i + 1 then some (⟨g, 0, none⟩ : Addr) else some ⟨g, (i + 1) * 3, none⟩) = some Ad ∧ ∀ (j : Nat) u, (hCells B)[j]? = some u → w.drew.cell? (Ad.add j) = some u := by
    by_cases h : cap = i + 1
    · refine ⟨_, if_pos h, fun j u hj => ?_⟩
      have : B = [] := List.eq_nil_of_length_eq_zero (by omega)
      subst this
      simp [hCells] at hj
    · refine ⟨_, if_neg h, fun j u hj => ?_⟩
      rw [add_off]
      have hjl := (List.getElem?_eq_some_iff.1 hj).1
      have h2 : cur.toList[(i + 1) * 3 + j]? = some u := by
        have h3 : (hCells A ++ hCells [y]).length = (i + 1) * 3 := by rw [List.length_append, hAl, hcs_len]; omega
        rw [hcl, List.append_assoc, List.getElem?_append_right (by omega), h3, Nat.add_sub_cancel_left, List.getElem?_append_left hjl, hj]
      show w.cell? _ = _
      simpa [World.cell?, hg] using h2
  have hap : ∀ ty sc, (Builtin.append_ #[120, 120] ty #[.slice (some ⟨g, 0, none⟩) i cap, .slice (some Ad) (n - (i + 1)) sc]).run Try.prog w.drew = .ok (.slice (some ⟨g, 0, none⟩) (n - 1) cap) (w.drew.setRow g C1.toArray) := fun ty sc => by
    have h := run_append_room (P := Try.prog) w.drew 120 ty 131 i0 Try.underlying120 hi0 g i cap cur hg Ad (n - (i + 1)) sc (hCells B) (by rw [hz1, hBl]; omega) hsrc (hCells_one _) (by omega) (by rw [hz1, hBl, hcs]; omega)
    rw [hz1, show i + (n - (i + 1)) = n - 1 by omega, ← hC1] at h
    exact h
  obtain ⟨W1, hW1⟩ : ∃ W1, W1 = w.drew.setRow g C1.toArray := ⟨_, rfl⟩
  have hg1 : W1.heap[g]? = some (.cells C1.toArray 131 (0, 0)) := by rw [hW1]; exact setRow_heap w.drew g cur _ _ _ hg
  have hgr1 : w.grownBy W1 (some g) := by rw [hW1]; exact grown_setRow (World.grownBy.refl w _) (.inl rfl) _ |> fun h => ⟨h.os, h.tape, h.output, h.size, h.block⟩
  rw [← hW1] at hap
  obtain ⟨C2, hC2⟩ : ∃ C2 : List Value, C2 = C1.take ((n - 1) * 3) ++ hCells [⟨0, 0, ⟨#[]⟩⟩] ++ C1.drop ((n - 1) * 3 + (hCells [⟨0, 0, ⟨#[]⟩⟩]).length) := ⟨_, rfl⟩
  have hzv : ∀ w, (zeroValue 131).run Try.prog w = .ok (.agg #[.int .i64 0, .int .u64 0, .string ⟨#[]⟩]) w := fun w => by
    simp [zeroValue, typeInfo, hi0, hz0]
  have hcr : ∀ ty c, (Builtin.clear_ #[120] ty #[.slice (some ⟨g, (n - 1) * 3, none⟩) (n - (n - 1)) c]).run Try.prog W1 = .ok (.tuple #[]) (W1.setRow g C2.toArray) := fun ty c => by
    have h := run_clear_own (P := Try.prog) W1 120 131 ty _ Try.underlying120 hzv g ((n - 1) * 3) (n - (n - 1)) c (by omega) 131 C1.toArray hg1 (hCells [⟨0, 0, ⟨#[]⟩⟩]) (by rw [show n - (n - 1) = 1 by omega]; kernel_rfl) (by simp only [List.size_toArray, hC1l, hcs_len]; omega) (hCells_one _)
    rw [hC2]
    simpa using h
  have hcr' : ∀ ty c, (Builtin.clear_ #[120] ty #[.slice (some ⟨g, (n - 1) * 3, none⟩) 1 c]).run Try.prog W1 = .ok (.tuple #[]) (W1.setRow g C2.toArray) := fun ty c => by have := hcr ty c; rwa [show n - (n - 1) = 1 by omega] at this
  have hfin : w.grownBy (W1.setRow g C2.toArray) (some g) ∧ ∃ cur' : Array Value, (W1.setRow g C2.toArray).heap[g]? = some (.cells cur' 131 (0, 0)) ∧ cur'.size = cap * 3 ∧ cur'.toList.take ((n - 1) * 3) = hCells (A ++ B) := by
    refine ⟨grown_setRow hgr1 (.inl rfl) _, C2.toArray, setRow_heap W1 g _ _ _ _ hg1, ?_, ?_⟩
    · simp only [List.size_toArray, hC2, List.length_append, List.length_take, List.length_drop, hC1l, hcs_len]; omega
    · show C2.take _ = _
      rw [hC2, hT1]
      simp only [List.append_assoc]
      exact List.take_left' (by rw [hCells_length, List.length_append]; omega)
  have HF := Lib.hid hfin
  have HAP := Lib.hid hap
  have hlt : i < n := by omega
  have hin : i ≤ n := by omega
  have hi1 : (i : Int) + 1 ≤ (n : Int) := by omega
  have hic : i ≤ cap := by omega
  have hjc : i + 1 ≤ cap := by omega
  have hnn : n - 1 ≤ n := by omega
  have hnc1 : ¬ (cap = n - 1) := by omega
  have htn : ((i : Int) + 1).toNat = i + 1 := by omega
  have hb1 : (0 : Int) ≤ (i : Int) + 1 := by omega
  have hb7 : ¬ ((i : Int) = (i : Int) + 1) := by omega
  have hjc2 : (i : Int) + 1 ≤ (cap : Int) := by omega
  have hn1 : ((n - 1 : Nat) : Int) ≤ (n : Int) := by omega
  have mixed : Try.prog.follows Departure.mixedOrders = true := by kernel_rfl
  unfold maxLen at hcm
  rw [← hi]
  clear hfin hi hn hT1 hC2 hC1 hg1 hgr1 hcl hR hAl hBl hC1l ht hcs hg hW1 hsrc hap hzv
  go_enter Try.func81, Try.ntmps81
  go_wp2_with fail
  go_region_law_o (refine step_append_run rfl _ _ 120 120 rfl (.slice (some ⟨g, 0, none⟩) i cap) (.slice (some Ad) (n - (i + 1)) (cap - (i + 1))) (by simp [Act.eval, Act.put]) (by simp [Act.eval, Act.put]) (HAP.out _ _) ?_)
  go_wp2
  go_ret
  exact ⟨rfl, HF.out⟩
theorem insert_any (A B : List HI) (x : HI) (w : World) (N : Nat) (v : Value) (hv : w.ownsRow N 131 3 v (A ++ B).length (hCells (A ++ B))) (vb : Nat) (hx : OneAt w vb x) (hne : v.ownBlock ≠ some vb) (hl : (A ++ B).length ≤ 1000000) (hN : N ≤ w.heap.size) :
    Calls Try.prog 77 #[v, .int .i64 A.length, .slice (some ⟨vb, 0, none⟩) 1 1] w fun e w' =>
      ∃ v', e = .returned v' ∧ w'.ownsRow N 131 3 v' (A ++ x :: B).length (hCells (A ++ x :: B)) ∧ w.grownBy w' v.ownBlock ∧ NewRow w v v' := by
  have hlen : (A ++ x :: B).length = (A ++ B).length + 1 := by simp; omega
  rw [hlen]
  by_cases hB : B = []
  · subst hB
    rw [List.append_nil] at hv hl ⊢
    exact insert_end A x w N v hv vb hx hl hN
  · have hBl := hCells_ne B hB
    have hn : (A ++ B).length = A.length + B.length := List.length_append
    rcases hv.2 with ⟨rfl, h0⟩ | ⟨g, cap, cur, rfl, hg, hgc, hnc, hcm, hcs, ht⟩
    · omega
    · have hvg : vb ≠ g := fun e => hne (by rw [e]; rfl)
      by_cases hroom : (A ++ B).length + 1 ≤ cap
      · refine (insert_room A B x w g _ cap cur hn hgc hBl hroom hcm hcs ht vb hx hvg hl).mono ?_
        rintro e w' ⟨rfl, hgr, cur', h1, h2, h3⟩
        exact ⟨_, rfl, own_of hg h1 hroom hcm h2 (by rw [hCells_length, hlen]) h3, hgr, .inl rfl⟩
      · refine (insert_grow A B x w N g _ cap cur hn hgc hBl hnc (by omega) hcm hcs ht vb hx hl hN).mono ?_
        rintro e w' ⟨v', rfl, h1, h2, h3⟩
        exact ⟨_, rfl, h1, ⟨h2.os, h2.tape, h2.output, h2.size, fun k hk hr => h2.block k hk (by simp)⟩, .inr fun k e => by rw [h3] at e; cases e; exact Nat.le_refl _⟩
theorem delete_own (A B : List HI) (y : HI) (w : World) (N : Nat) (v : Value) (hv : w.ownsRow N 131 3 v (A ++ y :: B).length (hCells (A ++ y :: B))) (hl : (A ++ y :: B).length ≤ 1000000) :
    Calls Try.prog 81 #[v, .int .i64 A.length, .int .i64 ((A.length : Int) + 1)] w fun e w' =>
      ∃ v', e = .returned v' ∧ w'.ownsRow N 131 3 v' (A ++ B).length (hCells (A ++ B)) ∧ w.grownBy w' v.ownBlock ∧ NewRow w v v' := by
  have hlen : (A ++ y :: B).length = A.length + 1 + B.length := by simp; omega
  have hlen2 : (A ++ y :: B).length - 1 = (A ++ B).length := by simp
  rcases hv.2 with ⟨rfl, h0⟩ | ⟨g, cap, cur, rfl, hg, hgc, hnc, hcm, hcs, ht⟩
  · omega
  · refine (delete_any A B y w g _ cap cur hlen hgc hnc hcm hcs ht hl).mono ?_
    rintro e w' ⟨rfl, hgr, cur', h1, h2, h3⟩
    rw [hlen2] at h3 ⊢
    exact ⟨_, rfl, own_of hg h1 (by omega) hcm h2 (hCells_length _) h3, hgr, .inl rfl⟩
end Go.Proofs.Ytfgmeeponipjeaa
/-
  Noughts: strings.Repeat of one byte of 0. Of any program that has it on its shelf.
-/


namespace Go.Proofs.Ytfgmeeponipjeaa
open Go.RowKit
set_option linter.unusedVariables false

def zeroL (n : Nat) : ByteArray := ⟨(List.replicate n 0).toArray⟩
theorem repeat0 (n : Nat) (w : World) (hn : n ≤ 140737488355328) : Calls Try.prog 90 #[.string ⟨#[0]⟩, .int .i64 n] w fun e w' => e = .returned (.string (zeroL n)) ∧ Below w.heap.size w w' := by
  have h := Try.strings_Repeat ⟨#[0]⟩ n w (by omega) (by show 1 * n ≤ _; omega)
  have e : Lib.repeatL [0] n = List.replicate n 0 := by
    have := Lib.repeatL_replicate 0 1 n
    simpa using this
  refine h.mono fun e' w' hw => ⟨?_, hw.2⟩
  rw [hw.1]
  show Ending.returned (.string ⟨(Lib.repeatL [0] n).toArray⟩) = _
  rw [e]; rfl
theorem zeroL_size (n : Nat) : (zeroL n).size = n := by simp [zeroL, ByteArray.size]
end Go.Proofs.Ytfgmeeponipjeaa
