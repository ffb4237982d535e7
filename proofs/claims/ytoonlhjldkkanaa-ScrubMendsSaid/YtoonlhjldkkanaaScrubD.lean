/-
  tarnlaw43: few, the waking call.
-/
import Derived.Test.YtoonlhjldkkanaaScrubC
namespace Go.Proofs.Ytoonlhjldkkanaa
open Go.RowKit
set_option linter.unusedVariables false
set_option linter.unusedSimpArgs false

theorem own_cell {w : World} {N g n c size k : Nat} {e : TypeId} {xs : List Value} (h : w.ownsRow N e size (.slice (some ⟨g, 0, none⟩) n c) n xs) (u : Value) : (w.setCell ⟨g, k, none⟩ u).ownsRow N e size (.slice (some ⟨g, 0, none⟩) n c) n (xs.set k u) := by
  rcases h.2 with ⟨q, _⟩ | ⟨g', cap, cur, q, hb, hg, hnc, hcm, hcs, ht⟩
  · cases q
  · injection q with e1 _ e2
    injection e1 with e1
    injection e1 with e1
    subst e1 e2
    refine own_of hb (heap_set_self hg k u) hnc hcm (by simpa using hcs) (by rw [List.length_set]; exact h.1) ?_
    rw [Array.toList_setIfInBounds, List.take_set, ht]
theorem hCells_setb : ∀ (L : List HI) (j : Nat) (x : HI) (B : Int), L[j]? = some x → (hCells L).set (j * 3) (.int .i64 B) = hCells (L.set j ⟨B, x.v, x.d⟩)
  | [], j, x, B, h => by simp at h
  | y :: t, 0, x, B, h => by simp at h; subst h; rfl
  | y :: t, j + 1, x, B, h => by
    rw [show (j + 1) * 3 = j * 3 + 3 by omega]
    simp only [hCells, List.set_cons_succ]
    rw [hCells_setb t j x B (by simpa using h)]
theorem hCells_setv : ∀ (L : List HI) (j : Nat) (x : HI) (V : Int), L[j]? = some x → (hCells L).set (j * 3 + 1) (.int .u64 V) = hCells (L.set j ⟨x.b, V, x.d⟩)
  | [], j, x, V, h => by simp at h
  | y :: t, 0, x, V, h => by simp at h; subst h; rfl
  | y :: t, j + 1, x, V, h => by
    rw [show (j + 1) * 3 + 1 = (j * 3 + 1) + 3 by omega]
    simp only [hCells, List.set_cons_succ]
    rw [hCells_setv t j x V (by simpa using h)]
def fewX (x : HI) : HI := ⟨bits .and .i64 x.b 7, bits .and .u64 x.v 3, x.d⟩
def mixL (L : List HI) (j : Nat) : List HI := (L.take j).map fewX ++ L.drop j
theorem mixL_len (L : List HI) (j : Nat) : (mixL L j).length = L.length := by simp [mixL]; omega
theorem mixL_at {L : List HI} {j : Nat} {x : HI} (h : L[j]? = some x) : (mixL L j)[j]? = some x := by
  have := (List.getElem?_eq_some_iff.1 h).1
  unfold mixL
  rw [List.getElem?_append_right (by simp; omega)]
  simp [Nat.min_eq_left (Nat.le_of_lt this), h]
theorem mixL_next {L : List HI} {j : Nat} {x : HI} (h : L[j]? = some x) : (mixL L j).set j (fewX x) = mixL L (j + 1) := by
  have hj := (List.getElem?_eq_some_iff.1 h).1
  have e : L.drop j = x :: L.drop (j + 1) := by
    rw [List.drop_eq_getElem_cons hj]
    rw [List.getElem?_eq_getElem hj] at h
    rw [Option.some.inj h]
  unfold mixL
  rw [List.set_append_right _ _ (by simp; omega), e, take_next h, List.map_append]
  simp [Nat.min_eq_left (Nat.le_of_lt hj)]
theorem fewX_ok {x : HI} (h : Ok x) : Ok (fewX x) := ⟨wf_bits .and .i64 x.b 7, wf_bits .and .u64 x.v 3, h.d⟩
def fewIn (rs : List HI) : List HI := (nearL rs).map fewX
theorem fewIn_ok {rs : List HI} (h : ∀ x ∈ rs, Raw x) : ∀ x ∈ fewIn rs, Ok x := fun x hx => by
  obtain ⟨y, hy, rfl⟩ := List.mem_map.1 hx
  exact fewX_ok (nearL_ok h y hy)
noncomputable def fewL (rs : List HI) : List HI := putAll [] (fewIn rs)
theorem fewL_srt {rs : List HI} (h : ∀ x ∈ rs, Raw x) : Srt (fewL rs) := srt_putAll Srt.nil (fewIn_ok h)
theorem fewL_may (rs : List HI) : AllM (fewL rs) := allM_putAll (by intro x hx; cases hx)
set_option maxHeartbeats 1600000 in
set_option maxRecDepth 100000 in
theorem few43x (rs : List HI) (hr : ∀ x ∈ rs, Raw x) (w : World) (v : Value) (hv : SR w v 3 rs.length (hCells rs)) :
    Calls Try.prog 52 #[v] w fun e w' => ∃ v', e = .returned v' ∧ SR w' v' 3 (fewL rs).length (hCells (fewL rs)) ∧ (∀ k, v'.ownBlock = some k → w.heap.size ≤ k ∧ k < w'.heap.size) ∧ Below w.heap.size w w' := by
  have c1 := near09 rs hr w v hv
  have hfo := fewIn_ok hr
  have hnl := nearL_len rs
  unfold fewL
  unfold fewIn at hfo ⊢
  obtain ⟨a, cap, rfl, hlc, hcm⟩ := hv.form
  obtain ⟨L, hL⟩ : ∃ L, nearL rs = L := ⟨_, rfl⟩
  rw [hL] at c1 hfo hnl ⊢
  have HFO := Lib.hid hfo
  clear hv hr hL hfo
  go_enter Try.func52, Try.ntmps52
  go_wp2_with fail
  refine Calls.mono c1 ?_
  rintro e w1 ⟨v1, rfl, ho1, hb1⟩
  obtain ⟨a1, cap1, rfl, hl1, hm1⟩ := (SR.owns ho1).form
  unfold maxLen at hm1
  have HO1 := Lib.hid ho1
  have HB1 := Lib.hid hb1
  clear ho1 hb1 c1
  go_wp2_with fail
  go_loopw [4] (fun i wr => ∃ j : Nat, j ≤ L.length ∧ i = .int .i64 j ∧ Hid (wr.ownsRow w.heap.size 58 3 (.slice a1 L.length cap1) L.length (hCells (mixL L j)) ∧ Below w.heap.size w wr)) (fun i _ => L.length - (intOf i).toNat)
  case atStart => exact ⟨0, Nat.zero_le _, rfl, Lib.hid ⟨by simpa [mixL] using HO1.out, HB1.out⟩⟩
  case round =>
    obtain ⟨j, hj, rfl, HL⟩ := hrel
    by_cases hlt : j < L.length
    · obtain ⟨x, hx⟩ : ∃ x, L[j]? = some x := ⟨_, List.getElem?_eq_getElem hlt⟩
      obtain ⟨g, rfl⟩ : ∃ g, a1 = some ⟨g, 0, none⟩ := by
        rcases HL.out.1.2 with ⟨q, h0⟩ | ⟨g, cap, cur, q, _⟩
        · omega
        · injection q with q; exact ⟨g, q⟩
      have hsr : SR wr (.slice (some ⟨g, 0, none⟩) L.length cap1) 3 L.length (hCells (mixL L j)) := SR.owns HL.out.1
      obtain ⟨g', off, e', -, c0, c1, c2⟩ := sr_held hsr j x (mixL_at hx)
      injection e' with e'
      injection e' with e1 e2
      subst e1 e2
      rw [Nat.zero_add] at c0 c1 c2
      have hgN : w.heap.size ≤ g := (HL.out.1.lt g rfl).1
      have hf : ∀ k, wr.frozen? ⟨g, k, none⟩ = false := by
        intro k
        rcases HL.out.1.2 with ⟨q, h0⟩ | ⟨g', cap, cur, q, _, hg, _⟩
        · omega
        · injection q with q _ _; injection q with q; injection q with q; subst q
          simp [World.frozen?, hg]
      have f0 := hf (j * 3)
      obtain ⟨B, hB⟩ : ∃ B, bits .and .i64 x.b 7 = B := ⟨_, rfl⟩
      have ho2 := own_cell (k := j * 3) HL.out.1 (.int .i64 B)
      rw [hCells_setb _ _ _ _ (mixL_at hx)] at ho2
      have hb2 := HL.out.2.setCell (p := ⟨g, j * 3, none⟩) hgN (.int .i64 B)
      have hx2 : ((mixL L j).set j ⟨B, x.v, x.d⟩)[j]? = some ⟨B, x.v, x.d⟩ := by rw [List.getElem?_set_self (by rw [mixL_len]; exact hlt)]
      have HX2 := Lib.hid hx2
      have HX := Lib.hid hx
      have HO2 := Lib.hid ho2
      have HB2 := Lib.hid hb2
      have HBB := Lib.hid hB
      clear hsr hf ho2 hb2 hx hx2
      go_upto_region 6 with fail
      try rw [HBB.out]
      clear hB
      generalize wr.setCell ⟨g, j * 3, none⟩ (.int .i64 B) = w2 at *
      clear c0 c1 c2 f0
      have hsr : SR w2 (.slice (some ⟨g, 0, none⟩) L.length cap1) 3 L.length (hCells ((mixL L j).set j ⟨B, x.v, x.d⟩)) := SR.owns HO2.out
      obtain ⟨g', off, e', -, c0, c1, c2⟩ := sr_held hsr j _ HX2.out
      injection e' with e'
      injection e' with e1 e2
      subst e1 e2
      rw [Nat.zero_add] at c0 c1 c2
      have f1 : w2.frozen? ⟨g, j * 3 + 1, none⟩ = false := by
        rcases HO2.out.2 with ⟨q, h0⟩ | ⟨g', cap, cur, q, _, hg, _⟩
        · omega
        · injection q with q _ _; injection q with q; injection q with q; subst q
          simp [World.frozen?, hg]
      obtain ⟨V, hV⟩ : ∃ V, bits .and .u64 x.v 3 = V := ⟨_, rfl⟩
      have ho3 := own_cell (k := j * 3 + 1) HO2.out (.int .u64 V)
      rw [hCells_setv _ _ _ _ HX2.out, List.set_set, show (⟨(⟨B, x.v, x.d⟩ : HI).b, V, (⟨B, x.v, x.d⟩ : HI).d⟩ : HI) = fewX x by unfold fewX; rw [HBB.out, hV], mixL_next HX.out] at ho3
      have hb3 := HB2.out.setCell (p := ⟨g, j * 3 + 1, none⟩) hgN (.int .u64 V)
      have HO3 := Lib.hid ho3
      have HB3 := Lib.hid hb3
      clear hsr ho3 hb3
      go_wp2_with fail
      go_roundw
      case rel => exact ⟨j + 1, by omega, by go_num, Lib.hid ⟨by first | exact HO3.out | (rw [hV]; exact HO3.out), by first | exact HB3.out | (rw [hV]; exact HB3.out)⟩⟩
      case measure => simp [intOf]; omega
    · obtain rfl : j = L.length := by omega
      have hsr := SR.owns HL.out.1
      have hmx : mixL L L.length = L.map fewX := by simp [mixL]
      have hml : (L.map fewX).length = L.length := by simp
      rw [hmx] at hsr
      have cr := rof (L.map fewX) HFO.out wr _ (by rw [hml]; exact hsr)
      clear hsr hmx hml
      go_wp2_with fail
      refine Calls.mono cr ?_
      rintro e w4 ⟨v4, rfl, hm4, hn4, hb4⟩
      have HM4 := Lib.hid hm4
      have HN4 := Lib.hid hn4
      have HB4 := Lib.hid (HL.out.2.trans (hb4.mono HL.out.2.size))
      clear hm4 hb4 cr hn4
      go_wp2_with fail
      go_ret
      exact ⟨_, rfl, HM4.out, fun k e => ⟨Nat.le_trans HL.out.2.size (HN4.out k e).1, (HN4.out k e).2⟩, HB4.out⟩
theorem few43 (rs : List HI) (hr : ∀ x ∈ rs, Raw x) (w : World) (v : Value) (hv : SR w v 3 rs.length (hCells rs)) :
    Calls Try.prog 52 #[v] w fun e w' => ∃ v', e = .returned v' ∧ SR w' v' 3 (fewL rs).length (hCells (fewL rs)) ∧ Below w.heap.size w w' :=
  (few43x rs hr w v hv).mono fun e w' ⟨v', h1, h2, _, h4⟩ => ⟨v', h1, h2, h4⟩
end Go.Proofs.Ytoonlhjldkkanaa
