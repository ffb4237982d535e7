/-
  Several texts, laid together.
-/
import Derived.Test.YtjaaddjbmimjoaaMh6
import Derived.Test.YtjaaddjbmimjoaaMh14
import Derived.Test.YtjaaddjbmimjoaaMh16
/-
  tarnref01.R: List.
-/



namespace Go.Proofs.Ytjaaddjbmimjoaa
open Go.RowKit
set_option linter.unusedVariables false
set_option linter.unusedSimpArgs false

/-- the numbers that are told, whether an error came or not -/
def outR (q : RS) (L : Nat) : Nat → List Int
  | 0 => []
  | k + 1 => outR q L k ++ [((intsR q L k).1.numV L : Int)]
theorem outR_len (q : RS) (L k : Nat) : (outR q L k).length = k := by
  induction k with
  | zero => rfl
  | succ k ih => simp [outR, ih]
theorem intsR_next (q : RS) (L k : Nat) : (intsR q L (k + 1)).1 = (intsR q L k).1.numS L := by
  rw [intsR]
  split
  · rename_i h
    rw [numS_err _ _ h]
  · rfl
theorem intsR_out (q : RS) (L k : Nat) (h : (intsR q L k).1.e = 0) : (intsR q L k).2 = outR q L k := by
  induction k with
  | zero => rfl
  | succ k ih =>
    have hk : (intsR q L k).1.e = 0 := by
      rcases Classical.em ((intsR q L k).1.e = 0) with h0 | h0
      · exact h0
      · rw [intsR_next, numS_err _ _ h0] at h
        exact h
    rw [intsR, if_neg (by simpa using hk)]
    show (intsR q L k).2 ++ _ = _
    rw [ih hk]
    rfl
theorem ROk.ints {q : RS} (h : ROk q) (L k : Nat) : ROk (intsR q L k).1 := by
  induction k with
  | zero => exact h
  | succ k ih => rw [intsR_next]; exact ih.num L
theorem ints_len (q : RS) (L k : Nat) : (intsR q L k).1.s.length ≤ q.s.length := by
  induction k with
  | zero => exact Nat.le_refl _
  | succ k ih => rw [intsR_next]; exact Nat.le_trans (numS_len _ _) ih
theorem ROk.list {r : RS} (h : ROk r) (M L : Int) : ROk (r.listS M L) := (h.num _).ints _ _
theorem listS_len (r : RS) (M L : Int) : (r.listS M L).s.length ≤ r.s.length := Nat.le_trans (ints_len _ _ _) (numS_len _ _)
def RListP (w : World) (r : RS) (M L : Int) (ev : Ending) (w' : World) : Prop :=
  ∃ v, ev = .returned (.tuple #[rC (r.listS M L), v]) ∧ w'.ownsRow w.heap.size 3 1 v (r.listV M L).length (iCells (r.listV M L)) ∧ Below w.heap.size w w'
theorem two_cellsR {w : World} {b : Nat} {q : RS} (h : w.heap[b]? = some (.cells #[.string ⟨q.s.toArray⟩, .int .i64 q.e] 35)) : w.cell? ⟨b, 0, none⟩ = some (.string ⟨q.s.toArray⟩) ∧ w.cell? ⟨b, 1, none⟩ = some (.int .i64 q.e) ∧ ∀ j, w.frozen? ⟨b, j, none⟩ = false :=
  ⟨cell_at h 0 rfl, cell_at h 1 rfl, fun j => r_frz h j⟩
theorem own_past {w w' : World} {base y n size : Nat} {e : TypeId} {v : Value} {xs : List Value} (h : w.ownsRow base e size v n xs) (ho : Only y w w') (hy : y < base) : w'.ownsRow base e size v n xs := own_onlyD h ho hy
set_option maxHeartbeats 6400000 in
set_option maxRecDepth 100000 in
theorem rlist (r : RS) (M L : Nat) (w : World) (hok : ROk r) (hl : r.s.length ≤ 1000000) (hM0 : 0 < M) (hM1 : M ≤ 1000000) (hL0 : 0 < L) (hL1 : L ≤ 9223372036854775807) :
    Calls Try.prog 61 #[rC r, .int .i64 (M : Int), .int .i64 (L : Int)] w (RListP w r M L) := by
  obtain ⟨i0, hi, hz0, hz1, hz2⟩ := info_parts info_int
  have cM := fun w => rintG r M w hM0 (by omega) hok hl
  obtain ⟨q, hq⟩ : ∃ q, r.numS M = q := ⟨_, rfl⟩
  obtain ⟨m, hm⟩ : ∃ m, r.numV M = m := ⟨_, rfl⟩
  have hmM : m ≤ M := by rw [← hm]; exact numV_le r M
  have hokq : ROk q := by rw [← hq]; exact hok.num M
  have hlq : q.s.length ≤ 1000000 := by rw [← hq]; exact Nat.le_trans (numS_len _ _) hl
  simp only [hq, hm] at cM
  obtain ⟨F, hF⟩ : ∃ F, r.listS M L = F := ⟨_, rfl⟩
  obtain ⟨V, hV⟩ : ∃ V, r.listV M L = V := ⟨_, rfl⟩
  have hF' : (intsR q L m).1 = F := by rw [← hF, RS.listS]; simp only [Int.toNat_natCast]; rw [hq, hm]
  have hV' : V = if F.e ≠ 0 then [] else (intsR q L m).2 := by rw [← hV, RS.listV, hF]; simp only [Int.toNat_natCast]; rw [hq, hm]
  unfold RListP
  rw [hF, hV]
  have HF := Lib.hid (And.intro hF' hV')
  have HQ := Lib.hid (And.intro hokq hlq)
  clear hq hm hF hV hF' hV' hokq hlq hok hl
  obtain ⟨s, er⟩ := r
  unfold rC at cM ⊢
  simp only at cM ⊢
  obtain ⟨h1, h2, hb⟩ := two_alloc w #[.string ⟨s.toArray⟩, .int .i64 er] #[.string ⟨#[]⟩, .int .i64 0] 35
  have hz : ((w.alloc (.cells #[.string ⟨s.toArray⟩, .int .i64 er] 35)).alloc (.cells #[.string ⟨#[]⟩, .int .i64 0] 35)).heap.size = w.heap.size + 2 := by simp
  go_enter Try.func61, Try.ntmps61
  go_upto_region 1 with fail
  generalize (w.alloc (.cells #[.string ⟨s.toArray⟩, .int .i64 er] 35)).alloc (.cells #[.string ⟨#[]⟩, .int .i64 0] 35) = w1 at *
  have c0 := cell_at h1 0 (v := .string ⟨s.toArray⟩) rfl
  have c1 := cell_at h1 1 (v := .int .i64 er) rfl
  have H1 := Lib.hid (And.intro h2 (And.intro hb hz))
  clear h1 h2 hb hz
  go_wp2_with fail
  refine Calls.mono (cM w1) ?_
  rintro e w2 ⟨rfl, hb2⟩
  obtain ⟨h2, hb, hz⟩ := H1.out
  have hx2 := below_at hb2 (lt_heap h2) h2
  have hb02 := hb.trans (hb2.mono hb.size)
  have hP := heap_alloc_self w2 (.cells #[.string ⟨q.s.toArray⟩, .int .i64 q.e] 35)
  have hb23 : Below w2.heap.size w2 (w2.alloc (.cells #[.string ⟨q.s.toArray⟩, .int .i64 q.e] 35)) := (Below.refl _ _).alloc (Nat.le_refl _) _
  have hz2' : w.heap.size + 2 ≤ w2.heap.size := by have := hb2.size; omega
  have H3 := Lib.hid (And.intro (below_at hb23 (lt_heap hx2) hx2) (And.intro hP (And.intro (hb02.trans (hb23.mono hb02.size)) hz2')))
  clear h2 hb hz H1 hx2 hb02 hP hb23 hz2' hb2 c0 c1 cM
  go_upto_region 2 with fail
  generalize w2.alloc (.cells #[.string ⟨q.s.toArray⟩, .int .i64 q.e] 35) = w3 at *
  obtain ⟨B, hB⟩ : ∃ B, w2.heap.size = B := ⟨_, rfl⟩
  rw [hB] at H3
  try rw [hB]
  clear hB
  have hnil : (w3.alloc (.cells #[] 3)).ownsRow (B + 1) 3 1 (.slice (some ⟨w3.heap.size, 0, none⟩) 0 0) 0 (iCells []) := World.ownsRow_lit (base := B + 1) w3 #[] 0 (by have := lt_heap H3.out.2.1; omega) (by decide) (by simp)
  have hb34 : Below w3.heap.size w3 (w3.alloc (.cells #[] 3)) := (Below.refl _ _).alloc (Nat.le_refl _) _
  have H4 := Lib.hid (And.intro (below_at hb34 (lt_heap H3.out.1) H3.out.1) (And.intro (below_at hb34 (lt_heap H3.out.2.1) H3.out.2.1) (And.intro (H3.out.2.2.1.trans (hb34.mono H3.out.2.2.1.size)) (And.intro H3.out.2.2.2 hnil))))
  clear hnil hb34 H3
  go_upto_block 0 with fail
  generalize w3.alloc (.cells #[] 3) = w4 at *
  generalize w3.heap.size = g3 at *
  go_wp2_with fail
  go_loopw [10, 11] (fun ov iv wr => ∃ (k : Nat) (v : Value) (p : RS) (l : List Int), ov = v ∧ iv = .int .i64 k ∧ k ≤ m ∧ Hid ((intsR q L k).1 = p ∧ outR q L k = l) ∧ Hid (wr.heap[w.heap.size + 1]? = some (.cells #[.string ⟨#[]⟩, .int .i64 0] 35) ∧ wr.heap[B]? = some (.cells #[.string ⟨p.s.toArray⟩, .int .i64 p.e] 35) ∧ Below w.heap.size w wr ∧ wr.ownsRow (B + 1) 3 1 v l.length (iCells l))) (fun _ iv _ => m - (intOf iv).toNat)
  case atStart => exact ⟨0, _, q, [], rfl, rfl, by omega, Lib.hid ⟨rfl, rfl⟩, Lib.hid ⟨H4.out.1, H4.out.2.1, H4.out.2.2.1, H4.out.2.2.2.2⟩⟩
  case round =>
    obtain ⟨k, v, p, l, rfl, rfl, hk, HP, HW⟩ := hrel
    have hBw : w.heap.size + 2 ≤ B := H4.out.2.2.2.1
    obtain ⟨oa, oc, rfl⟩ := owns_form HW.out.2.2.2
    obtain ⟨c0, c1, fz⟩ := two_cellsR HW.out.2.1
    have hll : l.length = k := by rw [← HP.out.2, outR_len]
    rw [hll] at HW
    rw [hll]
    by_cases hlt : k < m
    · have hki : (k : Int) < (m : Int) := by omega
      have hokp : ROk p := by rw [← HP.out.1]; exact HQ.out.1.ints L k
      have hlp : p.s.length ≤ 1000000 := by rw [← HP.out.1]; exact Nat.le_trans (ints_len _ _ _) HQ.out.2
      have cI := rintG p L wr hL0 hL1 hokp hlp
      obtain ⟨p2, hp2⟩ : ∃ p2, p.numS L = p2 := ⟨_, rfl⟩
      obtain ⟨U, hU⟩ : ∃ U : Int, (p.numV L : Int) = U := ⟨_, rfl⟩
      rw [hp2, hU] at cI
      have HN := Lib.hid (show (intsR q L (k + 1)).1 = p2 ∧ outR q L (k + 1) = l ++ [U] from ⟨by rw [intsR_next, HP.out.1, hp2], by rw [outR, HP.out.1, hU, HP.out.2]⟩)
      have HLL := Lib.hid hll
      unfold rC at cI
      clear hokp hlp hp2 hU fz hll
      go_wp2_with fail
      refine Calls.mono cI ?_
      rintro e w5 ⟨rfl, hb5⟩
      have hP6 := heap_alloc_self w5 (.cells #[.string ⟨p2.s.toArray⟩, .int .i64 p2.e] 35)
      have hb56 : Below w5.heap.size w5 (w5.alloc (.cells #[.string ⟨p2.s.toArray⟩, .int .i64 p2.e] 35)) := (Below.refl _ _).alloc (Nat.le_refl _) _
      have hbr6 : Below wr.heap.size wr (w5.alloc (.cells #[.string ⟨p2.s.toArray⟩, .int .i64 p2.e] 35)) := hb5.trans (hb56.mono hb5.size)
      have hBr : B < wr.heap.size := lt_heap HW.out.2.1
      have H6 := Lib.hid (And.intro hP6 (And.intro hbr6 (show B < w5.heap.size from Nat.lt_of_lt_of_le hBr hb5.size)))
      clear hb5 hP6 hb56 hbr6 cI c0 c1
      go_upto_region 7 with fail
      generalize w5.alloc (.cells #[.string ⟨p2.s.toArray⟩, .int .i64 p2.e] 35) = w6 at *
      obtain ⟨N5, hN5⟩ : ∃ N5, w5.heap.size = N5 := ⟨_, rfl⟩
      rw [hN5] at H6
      try rw [hN5]
      clear hN5
      have hB6 := below_at H6.out.2.1 (lt_heap HW.out.2.1) HW.out.2.1
      obtain ⟨d0, d1, -⟩ := two_cellsR H6.out.1
      obtain ⟨b0, b1, bf⟩ := two_cellsR hB6
      have hs1 : (w6.setCell ⟨B, 0, none⟩ (.string ⟨p2.s.toArray⟩)).heap[B]? = some (.cells #[.string ⟨p2.s.toArray⟩, .int .i64 p.e] 35) := heap_set_self hB6 0 _
      have hs2 : ((w6.setCell ⟨B, 0, none⟩ (.string ⟨p2.s.toArray⟩)).setCell ⟨B, 1, none⟩ (.int .i64 p2.e)).heap[B]? = some (.cells #[.string ⟨p2.s.toArray⟩, .int .i64 p2.e] 35) := heap_set_self hs1 1 _
      have hO : Only B w6 ((w6.setCell ⟨B, 0, none⟩ (.string ⟨p2.s.toArray⟩)).setCell ⟨B, 1, none⟩ (.int .i64 p2.e)) := ((Only.refl _ _).set 0 _).set 1 _
      have hc6 := below_at H6.out.2.1 (lt_heap HW.out.1) HW.out.1
      have H7 := Lib.hid (And.intro ((hO.block _ (lt_heap hc6) (by omega)).trans hc6) (And.intro hs2 (And.intro ((HW.out.2.2.1.trans (H6.out.2.1.mono HW.out.2.2.1.size)).trans (hO.below (B := w.heap.size) (by omega) (Nat.le_trans HW.out.2.2.1.size H6.out.2.1.size))) (own_past (owns_below HW.out.2.2.2 H6.out.2.1) hO (by omega)))))
      clear hB6 hs1 hs2 hO hc6
      go_upto_region 8 with fail
      clear d0 d1 b0 b1 bf
      generalize (w6.setCell ⟨B, 0, none⟩ (.string ⟨p2.s.toArray⟩)).setCell ⟨B, 1, none⟩ (.int .i64 p2.e) = w7 at *
      have hown8 := owns_below H7.out.2.2.2 ((Below.refl _ _).alloc (Nat.le_refl _) (.cells #[.int .i64 U] 3))
      have hB7 := lt_heap H7.out.2.1
      have HO8 := Lib.hid hown8
      clear hown8
      go_wp2_with (at_builtin; refine wp_app Try.underlying22 hi hz0 hz1 hz2 rfl (by decide) rfl _ _ rfl (B + 1) _ k (iCells l) rfl HO8.out _ 1 (iCells [U]) rfl (SR.lit _ _ #[.int .i64 U] 1 1 (by decide) rfl) ?c2 ?c3 ?c4 ?c5 ?_)
      case c2 => intro y hy; simp [iCells] at hy; subst hy; rfl
      case c3 => unfold maxLen; omega
      case c4 => omega
      case c5 => simp; omega
      intro v2 w8 own2 hg2
      have hkeep : ∀ (b : Nat) (c : Array Value) (t : TypeId), w7.heap[b]? = some (.cells c t) → t ≠ 3 → w8.heap[b]? = some (.cells c t) := by
        intro b c t hbk ht
        refine (hg2.block b (by have := lt_heap hbk; simp; omega) fun e => ?_).trans ((Below.heap_alloc _ _ _ (lt_heap hbk)).trans hbk)
        obtain ⟨cc, hcc⟩ := own_typeN HO8.out e.symm
        rw [Below.heap_alloc _ _ _ (lt_heap hbk), hbk] at hcc
        cases hcc
        exact ht rfl
      have HW2 := Lib.hid (show w8.heap[w.heap.size + 1]? = some (.cells #[.string ⟨#[]⟩, .int .i64 0] 35) ∧ w8.heap[B]? = some (.cells #[.string ⟨p2.s.toArray⟩, .int .i64 p2.e] 35) ∧ Below w.heap.size w w8 ∧ w8.ownsRow (B + 1) 3 1 v2 (l ++ [U]).length (iCells (l ++ [U])) from
        ⟨hkeep _ _ _ H7.out.1 (by decide), hkeep _ _ _ H7.out.2.1 (by decide), (H7.out.2.2.1.alloc H7.out.2.2.1.size _).grown hg2 (by have := H7.out.2.2.1.size; simp; omega) (fun j e => by have := (HO8.out.lt j e).1; omega), by
          rw [List.length_append, HLL.out, show iCells (l ++ [U]) = iCells l ++ iCells [U] by simp [iCells]]
          exact own2⟩)
      obtain ⟨a3, c3, rfl⟩ := owns_form3 own2
      clear own2 hg2 hkeep
      go_wp2_with fail
      go_roundw
      case rel => exact ⟨k + 1, _, p2, l ++ [U], rfl, by go_num, by omega, HN, HW2⟩
      case measure => simp [intOf]; omega
    · obtain rfl : k = m := by omega
      have hpF : p = F := by rw [← HP.out.1, HF.out.1]
      subst hpF
      obtain ⟨z0, z1, zf⟩ := two_cellsR (q := ⟨[], 0⟩) HW.out.1
      have hs1 : (wr.setCell ⟨w.heap.size + 1, 0, none⟩ (.string ⟨p.s.toArray⟩)).heap[w.heap.size + 1]? = some (.cells #[.string ⟨p.s.toArray⟩, .int .i64 0] 35) := heap_set_self HW.out.1 0 _
      have hs2 : ((wr.setCell ⟨w.heap.size + 1, 0, none⟩ (.string ⟨p.s.toArray⟩)).setCell ⟨w.heap.size + 1, 1, none⟩ (.int .i64 p.e)).heap[w.heap.size + 1]? = some (.cells #[.string ⟨p.s.toArray⟩, .int .i64 p.e] 35) := heap_set_self hs1 1 _
      have hO : Only (w.heap.size + 1) wr ((wr.setCell ⟨w.heap.size + 1, 0, none⟩ (.string ⟨p.s.toArray⟩)).setCell ⟨w.heap.size + 1, 1, none⟩ (.int .i64 p.e)) := ((Only.refl _ _).set 0 _).set 1 _
      have HE := Lib.hid (And.intro hs2 (And.intro (HW.out.2.2.1.trans (hO.below (B := w.heap.size) (by omega) HW.out.2.2.1.size)) (own_past HW.out.2.2.2 hO (by omega))))
      have HLL := Lib.hid hll
      clear hs1 hs2 hO hll
      by_cases hE : p.e = 0
      · have hVl : V = l := by rw [HF.out.2, if_neg (by simpa using hE), intsR_out q L k (by rw [HP.out.1]; exact hE), HP.out.2]
        have HVL := Lib.hid hVl
        have HE0 := Lib.hid hE
        have u1 : (p.e != 0) = false := by simpa using hE
        clear hVl hE
        go_wp2_with fail
        generalize (wr.setCell ⟨w.heap.size + 1, 0, none⟩ (.string ⟨p.s.toArray⟩)).setCell ⟨w.heap.size + 1, 1, none⟩ (.int .i64 p.e) = wf at *
        obtain ⟨y0, y1, -⟩ := two_cellsR HE.out.1
        refine bodyPost_ret (v := .tuple #[.agg #[.string ⟨p.s.toArray⟩, .int .i64 p.e], .slice oa k oc]) (by simp [results, Try.results61, go_sem, y0, y1]) rfl ?_
        refine ⟨_, rfl, ?_, HE.out.2.1⟩
        rw [HVL.out, HLL.out]
        exact owns_baseD HE.out.2.2 (by omega)
      · have hVl : V = [] := by rw [HF.out.2, if_pos hE]
        have HVL := Lib.hid hVl
        have u1 : (p.e != 0) = true := by simpa using hE
        have u2 : (p.e == 0) = false := by simpa using hE
        clear hVl hE
        go_wp2_with fail
        generalize (wr.setCell ⟨w.heap.size + 1, 0, none⟩ (.string ⟨p.s.toArray⟩)).setCell ⟨w.heap.size + 1, 1, none⟩ (.int .i64 p.e) = wf at *
        obtain ⟨y0, y1, -⟩ := two_cellsR HE.out.1
        refine bodyPost_ret (v := .tuple #[.agg #[.string ⟨p.s.toArray⟩, .int .i64 p.e], .slice none 0 0]) (by simp [results, Try.results61, go_sem, y0, y1]) rfl ?_
        refine ⟨_, rfl, ?_, HE.out.2.1⟩
        rw [HVL.out]
        exact World.ownsRow_nil _ _ _ _
end Go.Proofs.Ytjaaddjbmimjoaa
