/-
  A voter's log whose commands are none: Reset, New; what most have (lead.Decided); the waking call of layer 18.
-/
import Derived.Test.YtadejhlljdcocaaRlogB
import Derived.Test.YtadejhlljdcocaaLead
import Derived.Sort.OwnSortedInts
namespace Go.Proofs.Ytadejhlljdcocaa
open Go.RowKit Go.Sort
set_option linter.unusedVariables false
set_option linter.unusedSimpArgs false

theorem rresetZ (g : Nat) (w : World) (h : w.heap[g]? = some (.cells #[.int .i64 0, .int .i64 0, .slice none 0 0] 135)) : Calls Try.prog 72 #[.pointer (some ⟨g, 0, none⟩), .int .i64 0, .int .i64 0] w fun e w' => e = .returned (.tuple #[]) ∧ w = w' := by
  have d0 := cell_at h 0 (v := .int .i64 0) rfl
  have d1 := cell_at h 1 (v := .int .i64 0) rfl
  have d2 := cell_at h 2 (v := .slice none 0 0) rfl
  have i0 := setCell_id h (i := 0) (v := .int .i64 0) rfl
  have i1 := setCell_id h (i := 1) (v := .int .i64 0) rfl
  have i2 := setCell_id h (i := 2) (v := .slice none 0 0) rfl
  have f := frz_at h
  clear h
  go_enter Try.func72, Try.ntmps72
  go_wp2_with fail
  go_end0
  exact ⟨rfl, rfl⟩
def LogPost (ts : List Int) (w : World) (e : Ending) (w' : World) : Prop := ∃ v, e = .returned (.pointer (some ⟨w.heap.size, 0, none⟩)) ∧ LogZ w' w.heap.size w.heap.size v ts ∧ Below w.heap.size w w'
set_option maxHeartbeats 1600000 in
set_option maxRecDepth 100000 in
theorem rnewZ (ts : List Int) (hts : ∀ t ∈ ts, 1 ≤ t ∧ t ≤ 1048576) (hl : ts.length ≤ 300) (w : World) (v : Value) (hv : SR w v 7 ts.length (eCells ts)) :
    Calls Try.prog 16 #[.int .i64 0, .int .i64 0, v] w (LogPost ts w) := by
  obtain ⟨a, cap, rfl, hlc, hcm⟩ := hv.form
  have HV := Lib.hid hv
  have HT := Lib.hid hts
  obtain ⟨n, hn⟩ : ∃ n, ts.length = n := ⟨_, rfl⟩
  rw [hn] at HV hl hlc
  rw [hn]
  have HN := Lib.hid hn
  have hx := heap_alloc_self w (.cells #[.int .i64 0, .int .i64 0, .slice none 0 0] 135)
  have hb := (Below.refl w.heap.size w).alloc (Nat.le_refl _) (.cells #[.int .i64 0, .int .i64 0, .slice none 0 0] 135)
  have cr := rresetZ w.heap.size _ hx
  have H0 := Lib.hid (show LogZ (w.alloc (.cells #[.int .i64 0, .int .i64 0, .slice none 0 0] 135)) w.heap.size w.heap.size (.slice none 0 0) [] ∧ Below w.heap.size w (w.alloc (.cells #[.int .i64 0, .int .i64 0, .slice none 0 0] 135)) from ⟨⟨Nat.le_refl _, hx, World.ownsRow_nil _ _ _ _⟩, hb⟩)
  unfold maxLen at hcm
  clear hv hts hn hx hb
  go_enter Try.func16, Try.ntmps16
  go_wp2_with fail
  refine Calls.mono cr ?_
  rintro e w1 ⟨rfl, hw1⟩
  rw [hw1] at H0
  clear cr hw1
  go_wp2_with fail
  go_loopw [20] (fun i wr => ∃ (j : Nat), j ≤ n ∧ i = .int .i64 j ∧ Hid (∃ v', LogZ wr w.heap.size w.heap.size v' (ts.take j) ∧ Below w.heap.size w wr)) (fun i _ => n - (intOf i).toNat)
  case atStart => exact ⟨0, Nat.zero_le _, rfl, Lib.hid ⟨_, H0.out⟩⟩
  case round =>
    obtain ⟨j, hj, rfl, HL⟩ := hrel
    clear H0
    by_cases hlt : j < n
    · obtain ⟨v', hL, hB⟩ := HL.out
      obtain ⟨a', cap', he, h3, h4, h5, h6⟩ := HV.out
      injection he with e1 e2 e3
      subst e1 e3
      obtain ⟨b, off, rfl, hbl, hc⟩ := h6.resolve_left (by omega)
      have hjl : j < ts.length := by rw [HN.out]; exact hlt
      have hg : ts[j]? = some (ts.getD j 0) := by rw [List.getD_eq_getElem?_getD, List.getElem?_eq_getElem hjl]; rfl
      obtain ⟨t, ht⟩ : ∃ t, ts.getD j 0 = t := ⟨_, rfl⟩
      rw [ht] at hg
      have key : ∀ k v, (entZ t)[k]? = some v → k < 7 → wr.cell? ⟨b, off + j * 7 + k, none⟩ = some v := fun k v hk hk7 => by
        rw [hB.cell (p := ⟨b, off + j * 7 + k, none⟩) hbl, Nat.add_assoc]
        exact hc _ _ (eCells_get ts j t hg k v hk hk7)
      have k0 := key 0 (.int .i64 t) rfl (by decide)
      rw [Nat.add_zero] at k0
      have k1 := key 1 (.int .i64 0) rfl (by decide)
      have k2 := key 2 (.int .i64 0) rfl (by decide)
      have k3 := key 3 (.int .i64 0) rfl (by decide)
      have k4 := key 4 (.int .i64 0) rfl (by decide)
      have k5 := key 5 (.slice none 0 0) rfl (by decide)
      have k6 := key 6 (.slice none 0 0) rfl (by decide)
      obtain ⟨t1, t2⟩ := HT.out t (List.mem_of_getElem? hg)
      have hb1 := (Below.refl wr.heap.size wr).alloc (Nat.le_refl _) (.cells (entZ t) 35)
      have hy := heap_alloc_self wr (.cells (entZ t) 35)
      have hL1 := hL.below hb1
      have hB1 := hB.trans (hb1.mono hB.size)
      have htl : (ts.take j).length = j := by rw [List.length_take]; omega
      have htk : ts.take (j + 1) = ts.take j ++ [t] := by rw [List.take_add_one, hg]; rfl
      have HTK := Lib.hid htk
      have ca := fun v' h => raddZ t t1 t2 (wr.alloc (.cells (entZ t) 35)) w.heap.size w.heap.size v' (ts.take j) h (by rw [htl]; omega)
      have ca := ca _ hL1
      rw [htl] at ca
      have HX := Lib.hid (And.intro hL1 hB1)
      clear hL hB hc h5 h6 hg key hjl hb1 hL1 hB1 htl htk ht
      unfold entZ at *
      go_upto_region 6 with fail
      generalize wr.alloc (.cells #[.int .i64 t, .int .i64 0, .int .i64 0, .int .i64 0, .int .i64 0, .slice none 0 0, .slice none 0 0] 35) = w2 at *
      have d0 := cell_at hy 0 (v := .int .i64 t) rfl
      have d1 := cell_at hy 1 (v := .int .i64 0) rfl
      have d2 := cell_at hy 2 (v := .int .i64 0) rfl
      have d3 := cell_at hy 3 (v := .int .i64 0) rfl
      have d4 := cell_at hy 4 (v := .int .i64 0) rfl
      have d5 := cell_at hy 5 (v := .slice none 0 0) rfl
      have d6 := cell_at hy 6 (v := .slice none 0 0) rfl
      clear hy k0 k1 k2 k3 k4 k5 k6
      go_wp2_with fail
      refine Calls.mono ca ?_
      rintro e w3 ⟨rfl, v2, h2, hk⟩
      have HF := Lib.hid (show ∃ v', LogZ w3 w.heap.size w.heap.size v' (ts.take (j + 1)) ∧ Below w.heap.size w w3 from ⟨v2, by rw [HTK.out]; exact h2, HX.out.2.trans hk.below⟩)
      clear h2 hk ca
      go_wp2_with fail
      go_roundw
      case rel => exact ⟨j + 1, by omega, by go_num, HF⟩
      case measure => simp [intOf]; omega
    · obtain rfl : j = n := by omega
      go_wp2_with fail
      go_ret
      obtain ⟨v', h1, h2⟩ := HL.out
      exact ⟨v', rfl, by rw [← HN.out, List.take_length] at h1; exact h1, h2⟩
/-- slices.Sort of an array of three -/
def Sort3 (x y z : Int) (b : Nat) (t : TypeId) (w : World) (e : Ending) (w' : World) : Prop :=
  e = .returned (.tuple #[]) ∧ ∃ p q r, ([x, y, z].mergeSort fun a c => decide (a ≤ c)) = [p, q, r] ∧ w'.heap[b]? = some (.cells #[.int .i64 p, .int .i64 q, .int .i64 r] t) ∧ w.grownBy w' (some b)
theorem sort3 (x y z : Int) (w : World) (b : Nat) (t : TypeId) (hb : w.heap[b]? = some (.cells #[.int .i64 x, .int .i64 y, .int .i64 z] t)) :
    Calls Try.prog 82 #[.slice (some ⟨b, 0, none⟩) 3 3] w (Sort3 x y z b t w) := by
  have hH : Holds (Value.int .i64) w b 0 [x, y, z].toArray := holds_of_blockI hb rfl
  refine (Try.slices_Sort_int b 0 3 [x, y, z] w hH (lt_heap hb) (by simp)).mono ?_
  rintro e w' ⟨rfl, n, os, rfl⟩
  have hl : ([x, y, z].mergeSort fun a c => decide (a ≤ c)).length = 3 := by simp
  obtain ⟨p, q, r, hpqr⟩ : ∃ p q r, ([x, y, z].mergeSort fun a c => decide (a ≤ c)) = [p, q, r] := by
    generalize ([x, y, z].mergeSort fun a c => decide (a ≤ c)) = L at hl
    match L, hl with
    | [p, q, r], _ => exact ⟨p, q, r, rfl⟩
  refine ⟨rfl, p, q, r, hpqr, ?_, grownBy_sortedI _⟩
  rw [heap_sortedI _ hb, hpqr]
  rfl
def med3 (M : Nat → Int) : Int := ([M 0, M 1, M 2].mergeSort fun a c => decide (a ≤ c)).getD 1 0
def decZ (M : Nat → Int) (ts : List Int) (term was : Int) : Int := if med3 M ≤ was ∨ term < 1 ∨ termZ ts (med3 M) ≠ term then was else med3 M
theorem med3_in (M : Nat → Int) (lo hi : Int) (h : ∀ i, i < 3 → lo ≤ M i ∧ M i ≤ hi) : lo ≤ med3 M ∧ med3 M ≤ hi := by
  have hp : ∀ m ∈ ([M 0, M 1, M 2].mergeSort fun a c => decide (a ≤ c)), lo ≤ m ∧ m ≤ hi := by
    intro m hm
    rw [List.mem_mergeSort] at hm
    simp at hm
    rcases hm with rfl | rfl | rfl
    · exact h 0 (by decide)
    · exact h 1 (by decide)
    · exact h 2 (by decide)
  have hl : ([M 0, M 1, M 2].mergeSort fun a c => decide (a ≤ c)).length = 3 := by simp
  unfold med3
  refine hp _ ?_
  rw [List.getD_eq_getElem?_getD, List.getElem?_eq_getElem (by omega)]
  exact List.getElem_mem _
set_option maxHeartbeats 1600000 in
set_option maxRecDepth 100000 in
theorem ldecided (term was : Int) (w : World) (a N g : Nat) (M X : Nat → Int) (v : Value) (ts : List Int) (ha : LeadAt w a M X) (hg : LogZ w N g v ts) (hl : ts.length ≤ 1000) (hM : ∀ i, i < 3 → -1000 ≤ M i ∧ M i ≤ 1000) :
    Calls Try.prog 28 #[.pointer (some ⟨a, 0, none⟩), .pointer (some ⟨g, 0, none⟩), .int .i64 term, .int .i64 was] w fun e w' => e = .returned (.int .i64 (decZ M ts term was)) ∧ Below w.heap.size w w' := by
  obtain ⟨⟨c0, c1, c2, -⟩, -⟩ := ha.cells
  have hm := med3_in M (-1000) 1000 hM
  have hx := heap_alloc_self w (.cells #[.int .i64 (M 0), .int .i64 (M 1), .int .i64 (M 2)] 44)
  have hb := (Below.refl w.heap.size w).alloc (Nat.le_refl _) (.cells #[.int .i64 (M 0), .int .i64 (M 1), .int .i64 (M 2)] 44)
  have cs := sort3 (M 0) (M 1) (M 2) _ w.heap.size 44 hx
  have HG := Lib.hid (And.intro hg hb)
  have hmed : ∀ p q r, ([M 0, M 1, M 2].mergeSort fun a c => decide (a ≤ c)) = [p, q, r] → q = med3 M := fun p q r h => by unfold med3; rw [h]; rfl
  obtain ⟨D, hD⟩ : ∃ D, decZ M ts term was = D := ⟨_, rfl⟩
  rw [hD]
  unfold decZ at hD
  obtain ⟨m, hme⟩ : ∃ m, med3 M = m := ⟨_, rfl⟩
  rw [hme] at hm hmed hD
  have HD := Lib.hid hD
  have HM := Lib.hid hmed
  clear hg hb ha hM hme hmed hD
  go_enter Try.func28, Try.ntmps28
  go_upto_region 4 with fail
  generalize w.alloc (.cells #[.int .i64 (M 0), .int .i64 (M 1), .int .i64 (M 2)] 44) = w1 at *
  clear c0 c1 c2
  go_wp2_with fail
  refine Calls.mono cs ?_
  rintro e w2 ⟨rfl, p, q, r, hs, h2, hgr⟩
  obtain rfl := HM.out p q r hs
  have hB2 : Below w.heap.size w w2 := HG.out.2.grown hgr HG.out.2.size (fun k e => by cases e; exact Nat.le_refl _)
  have hL2 : LogZ w2 N g v ts := HG.out.1.below hB2
  have d1 := cell_at h2 1 (v := .int .i64 q) rfl
  have HB2 := Lib.hid hB2
  have ct := rtermZ q w2 N g v ts hL2 hl (by omega) (by omega)
  have HL2 := Lib.hid hL2
  clear hs h2 hgr cs hx hL2 hB2
  obtain ⟨T, hT⟩ : ∃ T, termZ ts q = T := ⟨_, rfl⟩
  rw [hT] at ct
  have HT := Lib.hid hT
  clear hT
  by_cases h1 : q ≤ was
  · go_wp2_with fail
    go_ret
    exact ⟨ret_int (by rw [← HD.out, if_pos (.inl h1)]), HB2.out⟩
  · by_cases h2 : term < 1
    · go_wp2_with fail
      go_ret
      exact ⟨ret_int (by rw [← HD.out, if_pos (.inr (.inl h2))]), HB2.out⟩
    · by_cases h3 : T = term
      · subst h3
        go_wp2_with fail
        refine Calls.mono ct ?_
        rintro e w3 ⟨rfl, k, rfl⟩
        go_wp2_with fail
        go_ret
        exact ⟨ret_int (by rw [← HD.out, HT.out, if_neg (by simp; omega)]), below_drewN' HB2.out k⟩
      · have h4 : (T == term) = false := by simpa using h3
        have h5 : (T != term) = true := by simpa using h3
        go_wp2_with fail
        refine Calls.mono ct ?_
        rintro e w3 ⟨rfl, k, rfl⟩
        go_wp2_with fail
        go_ret
        exact ⟨ret_int (by rw [← HD.out, HT.out, if_pos (.inr (.inr h3))]), below_drewN' HB2.out k⟩
end Go.Proofs.Ytadejhlljdcocaa
