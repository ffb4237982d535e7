/-
  past's uses: those that are writings (slices.DeleteFunc, the walk).
-/
import Derived.Test.YtjaaddjbmimjoaaPstG
namespace Go.Proofs.Ytjaaddjbmimjoaa
open Go.RowKit
set_option linter.unusedVariables false
set_option linter.unusedSimpArgs false

theorem zc_len (n : Nat) : (Builtin.zeroCells #[Value.bool false, .string ⟨#[]⟩, .int .i64 0, .int .i64 0] n).toList.length = n * 4 := by simp [Builtin.zeroCells]
theorem zc_one (n : Nat) : ∀ v ∈ (Builtin.zeroCells #[Value.bool false, .string ⟨#[]⟩, .int .i64 0, .int .i64 0] n).toList, v.oneCell' = true := by
  intro v hv
  simp only [Builtin.zeroCells, Array.toList_map, List.mem_map] at hv
  obtain ⟨i, -, rfl⟩ := hv
  have : i % 4 < 4 := Nat.mod_lt _ (by decide)
  show (#[Value.bool false, .string ⟨#[]⟩, .int .i64 0, .int .i64 0][i % 4]!).oneCell' = true
  generalize i % 4 = q at this
  match q, this with
  | 0, _ => rfl
  | 1, _ => rfl
  | 2, _ => rfl
  | 3, _ => rfl
/-- clear of the tail -/
theorem InG.clear {g n cap : Nat} {M : List Us} {w : World} (h : InG g n cap M w) (i : Nat) (hi : i < n) : ∃ w', (∀ ty c, (Builtin.clear_ #[140] ty #[.slice (some ⟨g, i * 4, none⟩) (n - i) c]).run Try.prog w = .ok (.tuple #[]) w') ∧ InG g i cap (M.take i) w' ∧ w.grownBy w' (some g) := by
  obtain ⟨cur, h1, h2, h3, h4, h5, h6⟩ := h
  obtain ⟨i0, hi0, hz0, hz1, hz2⟩ := info_parts uinfo
  have hzv : ∀ w, (zeroValue 143).run Try.prog w = .ok (.agg #[.bool false, .string ⟨#[]⟩, .int .i64 0, .int .i64 0]) w := fun w => by
    simp [zeroValue, typeInfo, hi0, hz0]
  have hle : n * 4 ≤ cur.size := by rw [h2]; exact Nat.mul_le_mul_right _ h5
  refine ⟨_, fun ty c => run_clear_own (P := Try.prog) w 140 143 ty _ Try.underlying140 hzv g (i * 4) (n - i) c (by omega) 143 cur h1 _ rfl (by rw [show (Value.agg #[.bool false, .string ⟨#[]⟩, .int .i64 0, .int .i64 0]).cells = #[Value.bool false, .string ⟨#[]⟩, .int .i64 0, .int .i64 0] from rfl, zc_len]; omega) (zc_one _), ?_, ?_⟩
  · refine ⟨_, setRow_heap w g cur _ _ _ h1, ?_, ?_, ?_, by omega, h6⟩
    · rw [List.size_toArray, List.length_append, List.length_append, show (Value.agg #[.bool false, .string ⟨#[]⟩, .int .i64 0, .int .i64 0]).cells = #[Value.bool false, .string ⟨#[]⟩, .int .i64 0, .int .i64 0] from rfl, zc_len, List.length_take, List.length_drop]
      simp only [Array.length_toList]
      omega
    · show List.take (i * 4) (_ ++ _ ++ _) = _
      rw [List.append_assoc, List.take_left' (by simp; omega)]
      have e1 : cur.toList.take (i * 4) = (cur.toList.take (n * 4)).take (i * 4) := by rw [List.take_take, Nat.min_eq_left (by omega)]
      rw [e1, h3]
      have e2 : uC M = uC (M.take i) ++ uC (M.drop i) := by rw [← uC_app, List.take_append_drop]
      rw [e2, List.take_left' (by rw [uC_len, List.length_take]; rw [Nat.min_eq_left (by omega)])]
    · rw [List.length_take]; omega
  · exact grown_setRow (World.grownBy.refl w _) (.inl rfl) _
def PDelP (M : List Us) (v : Value) (w : World) (e : Ending) (w' : World) : Prop := ∃ v', e = .returned v' ∧ Elts w' Us.c 4 v' (M.filter (fun u => u.wr)) ∧ (∀ g, v'.ownBlock = some g → ∃ A fr, w'.heap[g]? = some (.cells A 143 fr)) ∧ w.grownBy w' v.ownBlock
set_option maxHeartbeats 6400000 in
set_option maxRecDepth 100000 in
theorem pdel (M : List Us) (g n cap : Nat) (w : World) (h : InG g n cap M w) :
    Calls Try.prog 75 #[.slice (some ⟨g, 0, none⟩) n cap, .func (.func 77) #[] #[]] w (PDelP M (.slice (some ⟨g, 0, none⟩) n cap) w) := by
  have eg : ∀ args w, (callFunc 77 args).run Try.prog w = .ok (.enter 77 args) w := fun _ _ => by rfl
  have c1 := pidx M _ w h.elts
  have hx : n ≤ cap ∧ cap ≤ maxLen ∧ M.length = n := by obtain ⟨cur, h1, h2, h3, h4, h5, h6⟩ := h; exact ⟨h5, h6, h4⟩
  have hx' : (n : Int) ≤ 9223372036854775807 := by unfold maxLen at hx; omega
  have hxc : (cap : Int) ≤ 9223372036854775807 := by unfold maxLen at hx; omega
  have hnc := hx.1
  have HM := Lib.hid (And.intro h hx.2.2)
  unfold PDelP
  clear h hx
  go_enter Try.func75, Try.ntmps75
  go_wp2_with fail
  refine Calls.mono c1 ?_
  rintro e w1 ⟨he, hb1⟩
  have hG1 := HM.out.1.below hb1
  have hg1 : w.grownBy w1 (some g) := ⟨hb1.os, hb1.tape, hb1.output, hb1.size, fun k hk _ => hb1.block k hk⟩
  clear c1 hb1
  rcases he with ⟨k, x, rfl, hk, hr, hno⟩ | ⟨rfl, hall⟩
  · have hkn : k < n := by have := (List.getElem?_eq_some_iff.1 hk).1; have := HM.out.2; omega
    have HS := Lib.hid (show InG g n cap M w1 ∧ M.take k = (M.take (k + 1)).filter (fun u => u.wr) ∧ M.drop (k + 1) = M.drop (k + 1) ∧ w.grownBy w1 (some g) from ⟨hG1, filt_all hno hk hr, rfl, hg1⟩)
    clear hk hr hno hG1 hg1
    have hkm : ((k : Int) == -1) = false := beq_false_of_ne (by omega)
    go_wp2_with fail
    go_loopw [5, 6] (fun iv jv wr => ∃ (i j : Nat) (M' : List Us), iv = .int .i64 i ∧ jv = .int .i64 j ∧ i < j ∧ j ≤ n ∧ Hid (InG g n cap M' wr ∧ M'.take i = (M.take j).filter (fun u => u.wr) ∧ M'.drop j = M.drop j ∧ w.grownBy wr (some g))) (fun _ jv _ => n - (intOf jv).toNat)
    case atStart => exact ⟨k, k + 1, M, rfl, by go_num, by omega, by omega, Lib.hid ⟨HS.out.1, HS.out.2.1, rfl, HS.out.2.2.2⟩⟩
    case round =>
      obtain ⟨i, j, M', rfl, rfl, hij, hjn, HR⟩ := hrel
      clear HS
      by_cases hlt : j < n
      · obtain ⟨x, hx⟩ : ∃ x, M[j]? = some x := ⟨_, List.getElem?_eq_getElem (by have := HM.out.2; omega)⟩
        have hx2 := keep_next HR.out.2.1 HR.out.2.2.1 hx
        obtain ⟨b, off, e1, hb, k0, k1, k2, k3⟩ := us_cells HR.out.1.elts hx2
        injection e1 with e1
        injection e1 with e1 e2
        subst e1 e2
        rw [Nat.zero_add] at k0 k1 k2 k3
        have hb2 : Below wr.heap.size wr (wr.alloc (.cells #[.bool x.wr, .string x.val, .int .i64 x.from_, .int .i64 x.til] 143)) := (Below.refl _ _).alloc (Nat.le_refl _) _
        have hgr2 : w.grownBy (wr.alloc (.cells #[.bool x.wr, .string x.val, .int .i64 x.from_, .int .i64 x.til] 143)) (some g) := HR.out.2.2.2.trans ⟨hb2.os, hb2.tape, hb2.output, hb2.size, fun k hk _ => hb2.block k hk⟩
        have H2 := Lib.hid (And.intro (HR.out.1.below hb2) (And.intro (heap_alloc_self wr (.cells #[.bool x.wr, .string x.val, .int .i64 x.from_, .int .i64 x.til] 143)) (And.intro hgr2 (And.intro HR.out.2.1 (And.intro HR.out.2.2.1 hx)))))
        obtain ⟨P, hP⟩ : ∃ P, wr.heap.size = P := ⟨_, rfl⟩
        rw [hP] at H2
        clear hx hx2 hb hb2 hgr2 HR
        go_upto_region 8 with fail
        try rw [hP]
        generalize wr.alloc (.cells #[.bool x.wr, .string x.val, .int .i64 x.from_, .int .i64 x.til] 143) = w2 at *
        clear k0 k1 k2 k3 hP
        have k0 := cell_atF H2.out.2.1 0 (v := .bool x.wr) rfl
        have k1 := cell_atF H2.out.2.1 1 (v := .string x.val) rfl
        have k2 := cell_atF H2.out.2.1 2 (v := .int .i64 x.from_) rfl
        have k3 := cell_atF H2.out.2.1 3 (v := .int .i64 x.til) rfl
        have cf := pof1 x w2
        obtain ⟨p, hp⟩ : ∃ p, x.wr = p := ⟨_, rfl⟩
        rw [hp] at k0 cf
        have HP := Lib.hid hp
        clear hp
        go_wp2_with fail
        refine Calls.mono cf ?_
        rintro e w3 ⟨rfl, hb3⟩
        have hgr3 : w.grownBy w3 (some g) := H2.out.2.2.1.trans ⟨hb3.os, hb3.tape, hb3.output, hb3.size, fun k hk _ => hb3.block k hk⟩
        have H3 := Lib.hid (And.intro (H2.out.1.below hb3) (And.intro (below_at hb3 (lt_heap H2.out.2.1) H2.out.2.1) hgr3))
        clear k0 k1 k2 k3 cf hb3 hgr3
        cases p
        · have HF := Lib.hid (show InG g n cap M' w3 ∧ M'.take i = (M.take (j + 1)).filter (fun u => u.wr) ∧ M'.drop (j + 1) = M.drop (j + 1) ∧ w.grownBy w3 (some g) from ⟨H3.out.1, by
            rw [take_next H2.out.2.2.2.2.2, List.filter_append, ← H2.out.2.2.2.1]
            have : ([x].filter (fun u => u.wr)) = [] := by simp [HP.out]
            rw [this, List.append_nil], drop_next H2.out.2.2.2.2.1, H3.out.2.2⟩)
          go_wp2_with fail
          go_roundw
          case rel => exact ⟨i, j + 1, M', rfl, by go_num, by omega, by omega, HF⟩
          case measure => exact meas_p n j hlt
        · have k0 := cell_atF H3.out.2.1 0 (v := .bool x.wr) rfl
          have k1 := cell_atF H3.out.2.1 1 (v := .string x.val) rfl
          have k2 := cell_atF H3.out.2.1 2 (v := .int .i64 x.from_) rfl
          have k3 := cell_atF H3.out.2.1 3 (v := .int .i64 x.til) rfl
          have fz := H3.out.1.frz
          have hin : i < n := by omega
          obtain ⟨y, hy⟩ : ∃ y, M'[i]? = some y := ⟨_, List.getElem?_eq_getElem (by obtain ⟨cur, h1, h2, h3, h4, h5, h6⟩ := H3.out.1; omega)⟩
          obtain ⟨b, off, e1, -, n0, n1, n2, n3⟩ := us_cells H3.out.1.elts hy
          injection e1 with e1
          injection e1 with e1 e2
          subst e1 e2
          rw [Nat.zero_add] at n0 n1 n2 n3
          clear hy
          obtain ⟨hS, hO⟩ := H3.out.1.set i hin x
          have HF := Lib.hid (show InG g n cap (M'.set i x) ((((w3.setCell ⟨g, i * 4, none⟩ (.bool x.wr)).setCell ⟨g, i * 4 + 1, none⟩ (.string x.val)).setCell ⟨g, i * 4 + 2, none⟩ (.int .i64 x.from_)).setCell ⟨g, i * 4 + 3, none⟩ (.int .i64 x.til)) ∧ (M'.set i x).take (i + 1) = (M.take (j + 1)).filter (fun u => u.wr) ∧ (M'.set i x).drop (j + 1) = M.drop (j + 1) ∧ w.grownBy ((((w3.setCell ⟨g, i * 4, none⟩ (.bool x.wr)).setCell ⟨g, i * 4 + 1, none⟩ (.string x.val)).setCell ⟨g, i * 4 + 2, none⟩ (.int .i64 x.from_)).setCell ⟨g, i * 4 + 3, none⟩ (.int .i64 x.til)) (some g) from ⟨hS, by
            have hl : i < M'.length := by obtain ⟨cur, h1, h2, h3, h4, h5, h6⟩ := H3.out.1; omega
            rw [take_next H2.out.2.2.2.2.2, List.filter_append, ← H2.out.2.2.2.1, take_set_next hl]
            have : ([x].filter (fun u => u.wr)) = [x] := by simp [HP.out]
            rw [this], by rw [drop_set_next (by omega)]; exact drop_next H2.out.2.2.2.2.1, H3.out.2.2.trans ⟨hO.os, hO.tape, hO.output, hO.size, fun k hk hne => hO.block k hk (fun e => hne (by rw [e]))⟩⟩)
          clear hS hO
          go_wp2_with fail
          go_roundw
          case rel => exact ⟨i + 1, j + 1, M'.set i x, by go_num, by go_num, by omega, by omega, HF⟩
          case measure => exact meas_p n j hlt
      · obtain rfl : j = n := by omega
        obtain ⟨w2, hcl, hG2, hg2⟩ := HR.out.1.clear i hij
        have HF := Lib.hid (show InG g i cap (M.filter (fun u => u.wr)) w2 ∧ w.grownBy w2 (some g) from ⟨by
          have := HR.out.2.1
          rw [List.take_of_length_le (l := M) (by have := HM.out.2; omega)] at this
          rw [← this]; exact hG2, HR.out.2.2.2.trans hg2⟩)
        clear hG2 hg2
        have hmin : i ≤ j := by omega
        go_wp2_with fail
        go_ret
        exact ⟨_, rfl, HF.out.1.elts, HF.out.1.typed, HF.out.2⟩
  · have HF := Lib.hid (show Elts w1 Us.c 4 (.slice (some ⟨g, 0, none⟩) n cap) (M.filter (fun u => u.wr)) ∧ InG g n cap M w1 ∧ w.grownBy w1 (some g) from ⟨by
      rw [List.filter_eq_self.2 (fun y hy => by have := hall y hy; simpa [isRd] using this)]
      exact hG1.elts, hG1, hg1⟩)
    clear hall hG1 hg1
    go_wp2_with fail
    go_ret
    exact ⟨_, rfl, HF.out.1, HF.out.2.1.typed, HF.out.2.2⟩
set_option maxHeartbeats 3200000 in
set_option maxRecDepth 100000 in
theorem pdel_nil (w : World) : Calls Try.prog 75 #[.slice none 0 0, .func (.func 77) #[] #[]] w (PDelP [] (.slice none 0 0) w) := by
  have c1 := pidx [] (.slice none 0 0) w ⟨none, 0, rfl, Nat.le_refl _, Nat.zero_le _, .inl rfl⟩
  unfold PDelP
  go_enter Try.func75, Try.ntmps75
  go_wp2_with fail
  refine Calls.mono c1 ?_
  rintro e w1 ⟨he, hb1⟩
  rcases he with ⟨k, x, rfl, hk, hr, hno⟩ | ⟨rfl, hall⟩
  · simp at hk
  · have HF := Lib.hid hb1
    clear c1 hb1 hall
    go_wp2_with fail
    go_ret
    exact ⟨_, rfl, ⟨none, 0, rfl, Nat.le_refl _, Nat.zero_le _, .inl rfl⟩, (fun g e => by cases e), ⟨HF.out.os, HF.out.tape, HF.out.output, HF.out.size, fun k hk _ => HF.out.block k hk⟩⟩
theorem pdel_own (M : List Us) (v : Value) (N : Nat) (w : World) (h : w.ownsRow N 143 4 v M.length (uC M)) :
    Calls Try.prog 75 #[v, .func (.func 77) #[] #[]] w (PDelP M v w) := by
  rcases h.2 with ⟨rfl, h0⟩ | ⟨g, cap, cur, rfl, hb, hg, hnc, hcm, hcs, ht⟩
  · have : M = [] := List.eq_nil_of_length_eq_zero h0
    subst this
    exact pdel_nil w
  · exact pdel M g M.length cap w ⟨cur, hg, hcs, ht, rfl, hnc, hcm⟩
end Go.Proofs.Ytjaaddjbmimjoaa
