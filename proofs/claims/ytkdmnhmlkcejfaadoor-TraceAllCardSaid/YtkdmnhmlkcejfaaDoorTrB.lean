/-
  trace.May and Put.
-/
import Derived.Test.YtkdmnhmlkcejfaaDoorTrA
import Derived.Test.YtkdmnhmlkcejfaaDoorFrmB
namespace Go.Proofs.YtkdmnhmlkcejfaaDoor
open Go.RowKit
set_option linter.unusedVariables false
set_option linter.unusedSimpArgs false

/-- an act's lists read so -/
def ActAt (t : TA) (w : World) (vm vc : Value) : Prop := Ints w vm t.M ∧ Ints w vc t.C
theorem ActAt.below {t : TA} {w w' : World} {vm vc : Value} (h : ActAt t w vm vc) (hb : Below w.heap.size w w') : ActAt t w' vm vc := ⟨h.1.below hb, h.2.below hb⟩
def okN (x : Int) : Bool := decide (0 ≤ x ∧ x ≤ 1073741824)
theorem numsL_iff (t : TA) : NumsL t ↔ ∀ j, j < 7 → okN (t.nums.getD j 0) = true := by
  unfold NumsL okN
  constructor
  · intro h j hj
    have hl : j < t.nums.length := by simpa [TA.nums] using hj
    rw [List.getD_eq_getElem?_getD, List.getElem?_eq_getElem hl]
    exact decide_eq_true (h _ (List.getElem_mem hl))
  · intro h x hx
    obtain ⟨k, hk, rfl⟩ := List.mem_iff_getElem.1 hx
    have := h k (by simpa [TA.nums] using hk)
    rw [List.getD_eq_getElem?_getD, List.getElem?_eq_getElem hk] at this
    exact of_decide_eq_true this
theorem mayT_eq (t : TA) (h : NumsL t) : decide (MayT t) = (decide (NodesL t.M) && (decide (NodesL t.C) && decide (t.D.length + t.S.length ≤ 8192))) := by
  apply Bool.eq_iff_iff.mpr
  simp only [decide_eq_true_eq, Bool.and_eq_true]
  exact ⟨fun q => ⟨q.2.1, q.2.2.1, q.2.2.2⟩, fun q => ⟨h, q.1, q.2.1, q.2.2⟩⟩
theorem idx_nums (t : TA) : ∀ (j : Nat), j < 7 → ∀ w : World, (Instr.index 104 (.agg (numsV t)) (.int .i64 (j : Int))).run Tryd.prog w = .ok (.int .i64 (t.nums.getD j 0)) w
  | 0, _ | 1, _ | 2, _ | 3, _ | 4, _ | 5, _ | 6, _ => fun _ => by kernel_rfl
/-- the cells of an act in memory -/
structure ActIn (w : World) (b : Nat) (t : TA) (vm vc : Value) : Prop where
  c0 : w.cell? ⟨b, 0, none⟩ = some (.int .i64 t.W)
  c1 : w.cell? ⟨b, 1, none⟩ = some (.int .i64 t.P)
  c2 : w.cell? ⟨b, 2, none⟩ = some (.int .i64 t.A)
  c3 : w.cell? ⟨b, 3, none⟩ = some (.int .i64 t.B)
  c4 : w.cell? ⟨b, 4, none⟩ = some (.int .i64 t.aW)
  c5 : w.cell? ⟨b, 5, none⟩ = some (.int .i64 t.aA)
  c6 : w.cell? ⟨b, 6, none⟩ = some (.int .i64 t.aL)
  c7 : w.cell? ⟨b, 7, none⟩ = some (.string ⟨t.D.toArray⟩)
  c8 : w.cell? ⟨b, 8, none⟩ = some (.bool t.u)
  c9 : w.cell? ⟨b, 9, none⟩ = some vm
  c10 : w.cell? ⟨b, 10, none⟩ = some vc
  c11 : w.cell? ⟨b, 11, none⟩ = some (.string ⟨t.S.toArray⟩)
theorem actIn {w : World} {b : Nat} {t : TA} {vm vc : Value} (h : w.heap[b]? = some (.cells (actC t vm vc) 54)) : ActIn w b t vm vc :=
  ⟨cell_at h 0 rfl, cell_at h 1 rfl, cell_at h 2 rfl, cell_at h 3 rfl, cell_at h 4 rfl, cell_at h 5 rfl, cell_at h 6 rfl, cell_at h 7 rfl, cell_at h 8 rfl, cell_at h 9 rfl, cell_at h 10 rfl, cell_at h 11 rfl⟩
set_option maxHeartbeats 1600000 in
set_option maxRecDepth 40000 in
theorem tmay (t : TA) (vm vc : Value) (w : World) (hat : ActAt t w vm vc) (hD : t.D.length + t.S.length ≤ 9223372036854775807) :
    Calls Tryd.prog 63 #[.agg (actC t vm vc)] w fun e w' => e = .returned (.bool (decide (MayT t))) ∧ Below w.heap.size w w' := by
  have hx := heap_alloc_self w (.cells (actC t vm vc) 54)
  have hb : Below w.heap.size w (w.alloc (.cells (actC t vm vc) 54)) := (Below.refl _ _).alloc (Nat.le_refl _) _
  have hat1 := hat.below hb
  have cn := fun w => tnumbers t vm vc w
  have HC := Lib.hid (numsL_iff t)
  have HM := Lib.hid (mayT_eq t)
  obtain ⟨dl, hdl⟩ : ∃ n, t.D.length = n := ⟨_, rfl⟩
  obtain ⟨sl, hsl⟩ : ∃ n, t.S.length = n := ⟨_, rfl⟩
  rw [hdl, hsl] at hD
  have HDS := Lib.hid (And.intro hdl hsl)
  clear hat hdl hsl
  go_enter Tryd.func63, Tryd.ntmps63
  go_upto_region 1 with fail
  generalize w.alloc (.cells (actC t vm vc) 54) = w1 at *
  obtain ⟨d0, d1, d2, d3, d4, d5, d6, d7, d8, d9, d10, d11⟩ := actIn hx
  have HX := Lib.hid (And.intro hx (And.intro hb hat1))
  unfold actC at cn
  clear hx hb hat1
  go_wp2_with fail
  refine Calls.mono (cn w1) ?_
  rintro e w2 ⟨rfl, hb2⟩
  have h2 := below_at hb2 (lt_heap HX.out.1) HX.out.1
  have HX2 := Lib.hid (And.intro h2 (And.intro (HX.out.2.1.trans (hb2.mono HX.out.2.1.size)) (HX.out.2.2.below hb2)))
  clear d0 d1 d2 d3 d4 d5 d6 d7 d8 d9 d10 d11 cn hb2 HX h2
  obtain ⟨V, hV⟩ : ∃ V, numsV t = V := ⟨_, rfl⟩
  rw [hV]
  have HV := Lib.hid hV
  clear hV
  go_wp2_with fail
  go_loopw [7] (fun i wr => ∃ j : Nat, j ≤ 7 ∧ i = .int .i64 j ∧ wr = w2 ∧ Hid (∀ k, k < j → okN (t.nums.getD k 0) = true)) (fun i _ => 7 - (intOf i).toNat)
  case atStart => exact ⟨0, by decide, rfl, rfl, Lib.hid (fun k hk => absurd hk (by omega))⟩
  case round =>
    obtain ⟨j, hj, rfl, rfl, HA⟩ := hrel
    by_cases hj7 : j < 7
    · have hi := idx_nums t j hj7
      rw [HV.out] at hi
      obtain ⟨x, hx⟩ : ∃ x, t.nums.getD j 0 = x := ⟨_, rfl⟩
      rw [hx] at hi
      have HXj := Lib.hid hx
      clear hx
      by_cases hok : okN x = true
      · have HOK := Lib.hid hok
        have ho := of_decide_eq_true hok
        have ho1 : ¬ x < 0 := by omega
        have ho2 : ¬ 1073741824 < x := by omega
        clear hok ho
        go_wp2_with fail
        go_roundw
        case rel =>
          refine ⟨j + 1, by omega, by go_num, trivial, Lib.hid (fun k hk => ?_)⟩
          by_cases e : k = j
          · rw [e, HXj.out]; exact HOK.out
          · exact HA.out k (by omega)
        case measure => simp [intOf]; omega
      · have hres : decide (MayT t) = false := decide_eq_false fun h => hok (by have := HC.out.1 h.1 j hj7; rwa [HXj.out] at this)
        have HR := Lib.hid hres
        have ho : ¬ (0 ≤ x ∧ x ≤ 1073741824) := fun h => hok (decide_eq_true h)
        clear hok hres
        by_cases hx0 : x < 0
        · clear ho
          go_wp2_with fail
          go_ret
          exact ⟨ret_bool HR.out.symm, HX2.out.2.1⟩
        · have hx2 : 1073741824 < x := by omega
          clear ho
          go_wp2_with fail
          go_ret
          exact ⟨ret_bool HR.out.symm, HX2.out.2.1⟩
    · obtain rfl : j = 7 := by omega
      have hN : NumsL t := HC.out.2 HA.out
      have HR := Lib.hid (HM.out hN)
      obtain ⟨d0, d1, d2, d3, d4, d5, d6, d7, d8, d9, d10, d11⟩ := actIn HX2.out.1
      have cM := fun w' (hb : Below wr.heap.size wr w') => maylist t.M vm w' (HX2.out.2.2.1.below hb)
      have cC := fun w' (hb : Below wr.heap.size wr w') => maylist t.C vc w' (HX2.out.2.2.2.below hb)
      obtain ⟨p, hp⟩ : ∃ p, decide (NodesL t.M) = p := ⟨_, rfl⟩
      obtain ⟨q, hq⟩ : ∃ q, decide (NodesL t.C) = q := ⟨_, rfl⟩
      rw [hp] at cM HR
      rw [hq] at cC HR
      clear hN hp hq
      rcases p
      · go_wp2_with fail
        refine Calls.mono (cM _ (Below.refl _ _)) ?_
        rintro e w3 ⟨rfl, hb3⟩
        go_wp2_with fail
        go_ret
        exact ⟨ret_bool (by rw [HR.out]; rfl), HX2.out.2.1.trans (hb3.mono HX2.out.2.1.size)⟩
      · go_wp2_with fail
        refine Calls.mono (cM _ (Below.refl _ _)) ?_
        rintro e w3 ⟨rfl, hb3⟩
        obtain ⟨d0, d1, d2, d3, d4, d5, d6, d7, d8, d9, d10, d11⟩ := actIn (below_at hb3 (lt_heap HX2.out.1) HX2.out.1)
        have HB3 := Lib.hid hb3
        have c2 := cC w3 hb3
        clear hb3 cM cC
        rcases q
        · go_wp2_with fail
          refine Calls.mono c2 ?_
          rintro e w4 ⟨rfl, hb4⟩
          go_wp2_with fail
          go_ret
          exact ⟨ret_bool (by rw [HR.out]; rfl), HX2.out.2.1.trans ((HB3.out.trans (hb4.mono HB3.out.size)).mono HX2.out.2.1.size)⟩
        · go_wp2_with fail
          refine Calls.mono c2 ?_
          rintro e w4 ⟨rfl, hb4⟩
          have h4 := below_at hb4 (lt_heap (below_at HB3.out (lt_heap HX2.out.1) HX2.out.1)) (below_at HB3.out (lt_heap HX2.out.1) HX2.out.1)
          obtain ⟨d0, d1, d2, d3, d4, d5, d6, d7, d8, d9, d10, d11⟩ := actIn h4
          have HB4 := Lib.hid hb4
          have hdl : (⟨t.D.toArray⟩ : ByteArray).size = dl := HDS.out.1
          have hsl : (⟨t.S.toArray⟩ : ByteArray).size = sl := HDS.out.2
          clear hb4 c2 h4
          go_wp2_with fail
          go_ret
          refine ⟨ret_bool ?_, HX2.out.2.1.trans ((HB3.out.trans (HB4.out.mono HB3.out.size)).mono HX2.out.2.1.size)⟩
          rw [HR.out, HDS.out.1, HDS.out.2]
          simp
          try omega
end Go.Proofs.YtkdmnhmlkcejfaaDoor
