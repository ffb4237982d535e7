/-
  scrub: Unlike, Odd: which blocks two lists hold unlike.
-/
import Derived.Test.YtnjklhmnkjejfaaScrub
import Derived.Test.YtnjklhmnkjejfaaItsB
namespace Go.Proofs.Ytnjklhmnkjejfaa
open Go.RowKit
set_option linter.unusedVariables false
set_option linter.unusedSimpArgs false

theorem info_diff : (Try.prog.info? 88).map (fun i => (i.zero, i.size, i.bytes)) = some (some (.agg #[.int .i64 0, .int .u64 0, .string ⟨#[]⟩, .int .u64 0, .string ⟨#[]⟩]), 5, 56) := by kernel_rfl
/-- the cells of what is unlike -/
def dC (A B : List HI) (n : Int) : List Value := [.int .i64 n, .int .u64 (gv (getL A n)), .string (gd (getL A n)), .int .u64 (gv (getL B n)), .string (gd (getL B n))]
def dCells (A B : List HI) (ns : List Int) : List Value := ns.flatMap (dC A B)
theorem dCells_length (A B : List HI) (ns : List Int) : (dCells A B ns).length = ns.length * 5 := by
  induction ns with
  | nil => rfl
  | cons n t ih => simp only [dCells, List.flatMap_cons, List.length_append, List.length_cons] at ih ⊢; rw [ih]; simp [dC]; omega
theorem dCells_snoc (A B : List HI) (ns : List Int) (n : Int) : dCells A B (ns ++ [n]) = dCells A B ns ++ dC A B n := by simp [dCells]
theorem dC_one (A B : List HI) (n : Int) : ∀ y ∈ dC A B n, y.oneCell' = true := by
  intro y hy
  simp only [dC, List.mem_cons, List.not_mem_nil, or_false] at hy
  rcases hy with rfl | rfl | rfl | rfl | rfl <;> rfl
theorem item_dif (x : Int) (s : ByteArray) (y : Int) (t : ByteArray) (w : World) (hx : (Lit.int .u64 x).wf = true) (hs : s.size ≤ maxLen) (hy : (Lit.int .u64 y).wf = true) (ht : t.size ≤ maxLen) (r : Bool) (hr : r = true ↔ (x = y ∧ s = t)) :
    (binOp .neq 24 (.agg #[.int .u64 x, .string s]) (.agg #[.int .u64 y, .string t])).run Try.prog w = .ok (.bool (!r)) w :=
  (eq_deep (m := 4) (D := 4) (D' := 4) itemkey (by decide) (item_formed x s) (item_formed y t) (item_lits x s hx hs) (item_lits y t hy ht) r (by
    rw [hr]
    constructor
    · rintro ⟨rfl, rfl⟩; rfl
    · intro h
      simp only [List.cons.injEq, and_true] at h
      obtain ⟨h1, h2⟩ := h
      injection h1 with _ h1
      injection h2 with h2
      exact ⟨h1, str_ext h2⟩) w).2
def blk (l : List HI) : List Int := l.map (·.b)
/-- the blocks of the first j of which P is told -/
def firstP (P : Int → Bool) (M : List HI) (j : Nat) : List Int := ((M.take j).filter fun h => P h.b).map (·.b)
theorem firstP_next {P : Int → Bool} {M : List HI} {j : Nat} {x : HI} (hx : M[j]? = some x) : firstP P M (j + 1) = firstP P M j ++ (if P x.b = true then [x.b] else []) := by
  unfold firstP
  rw [take_next hx, List.filter_append, List.map_append]
  congr 1
  cases h : P x.b <;> simp [List.filter_cons, h]
theorem firstP_len (P : Int → Bool) (M : List HI) (j : Nat) : (firstP P M j).length ≤ j := by
  unfold firstP
  rw [List.length_map]
  exact Nat.le_trans (List.length_filter_le _ _) (by rw [List.length_take]; omega)
theorem firstP_all (P : Int → Bool) (M : List HI) : firstP P M M.length = (M.filter fun h => P h.b).map (·.b) := by unfold firstP; rw [List.take_length]
theorem diff_lit (A B : List HI) (n : Int) (w : World) : SR (w.alloc (.cells #[.int .i64 n, .int .u64 (gv (getL A n)), .string (gd (getL A n)), .int .u64 (gv (getL B n)), .string (gd (getL B n))] 88)) (.slice (some ⟨w.heap.size, 0, none⟩) 1 1) 5 1 (dC A B n) :=
  SR.lit w 88 #[.int .i64 n, .int .u64 (gv (getL A n)), .string (gd (getL A n)), .int .u64 (gv (getL B n)), .string (gd (getL B n))] 5 1 (by decide) rfl
theorem owns_dif {w' : World} {N : Nat} {v' : Value} {A B : List HI} {L : List Int} {n : Int} (h : w'.ownsRow N 88 5 v' (L.length + 1) (dCells A B L ++ dC A B n)) : w'.ownsRow N 88 5 v' (L ++ [n]).length (dCells A B (L ++ [n])) := by
  rw [dCells_snoc, List.length_append]
  exact h
theorem app_below {N : Nat} {w wr w2 : World} {ob : Obj} {o : Value} {n size : Nat} {e : TypeId} {xs : List Value} (hb : Below N w wr) (hN : N ≤ wr.heap.size) (ho : wr.ownsRow N e size o n xs) (hg : (wr.alloc ob).grownBy w2 o.ownBlock) : Below N w w2 :=
  below_app (hb.alloc hN ob) hg (ho.alloc ob) (Nat.le_refl _) (by simp; omega)
set_option maxHeartbeats 3200000 in
set_option maxRecDepth 400000 in
theorem sunlike (l m : List HI) (hol : ∀ x ∈ l, Ok x) (hom : ∀ x ∈ m, Ok x) (w : World) (u v : Value) (hu : SR w u 3 l.length (hCells l)) (hv : SR w v 3 m.length (hCells m)) :
    Calls Try.prog 40 #[u, v] w fun e w' => ∃ v', e = .returned v' ∧ SR w' v' 5 (((putAll [] (l ++ m)).filter fun h => dif (putAll [] l) (putAll [] m) h.b).map (·.b)).length (dCells (putAll [] l) (putAll [] m) (((putAll [] (l ++ m)).filter fun h => dif (putAll [] l) (putAll [] m) h.b).map (·.b))) ∧ Below w.heap.size w w' := by
  obtain ⟨i0, hi, hz0, hz1, hz2⟩ := info_parts info_diff
  have hitem : ∀ (x : Int) (D : ByteArray), itemA x D = #[.int .u64 x, .string D] := fun _ _ => rfl
  have ci := iof l hol w u hu
  have HSM := Lib.hid (srt_putAll Srt.nil (xs := l ++ m) fun h hh => by rcases List.mem_append.1 hh with q | q; exact hol h q; exact hom h q)
  rw [← firstP_all]
  obtain ⟨a', cap', rfl, hlc', hcm'⟩ := hu.form
  obtain ⟨a, cap, rfl, hlc, hcm⟩ := hv.form
  have HU := Lib.hid hu
  have HV := Lib.hid hv
  have HOL := Lib.hid hol
  have HOM := Lib.hid hom
  obtain ⟨A, hA⟩ : ∃ A, putAll [] l = A := ⟨_, rfl⟩
  obtain ⟨B, hB⟩ : ∃ B, putAll [] m = B := ⟨_, rfl⟩
  obtain ⟨M, hM⟩ : ∃ M, putAll [] (l ++ m) = M := ⟨_, rfl⟩
  rw [hA] at ci
  rw [hM] at HSM
  rw [hA, hB, hM]
  have HA := Lib.hid hA
  have HB := Lib.hid hB
  have HM := Lib.hid hM
  have hml := HSM.out.len
  have hg := itemguard
  clear hu hv hol hom hA hB hM
  go_enter Try.func40, Try.ntmps40
  go_wp2_with fail
  refine Calls.mono ci ?_
  rintro e w1 ⟨rfl, s1, hs1, hb1⟩
  have c2 := iof m HOM.out w1 _ (HV.out.below hb1)
  rw [HB.out] at c2
  have HS1 := Lib.hid hs1
  have HB1 := Lib.hid hb1
  clear hs1 hb1 ci
  go_wp2_with fail
  refine Calls.mono c2 ?_
  rintro e w2 ⟨rfl, s2, hs2, hb2⟩
  have HS2 := Lib.hid hs2
  have HS12 := Lib.hid (HS1.out.below hb2)
  have HB2 := Lib.hid (HB1.out.trans (hb2.mono HB1.out.size))
  have c3 := imerge l m HOL.out HOM.out w2 _ _ (HU.out.below HB2.out) (HV.out.below HB2.out)
  rw [HM.out] at c3
  clear hs2 hb2 c2
  go_wp2_with fail
  refine Calls.mono c3 ?_
  rintro e w3 ⟨v3, rfl, ho3, hb3⟩
  have HS13 := Lib.hid (HS12.out.below hb3)
  have HS23 := Lib.hid (HS2.out.below hb3)
  have HB3 := Lib.hid (HB2.out.trans (hb3.mono HB2.out.size))
  have HR3 := Lib.hid (SR.owns ho3)
  obtain ⟨a3, cap3, rfl, hlc3, hcm3⟩ := (SR.owns ho3).form
  unfold maxLen at hcm3
  clear ho3 hb3 c3 HS12 HS2
  go_wp2_with fail
  go_loopw [7, 22] (fun o i wr => ∃ j : Nat, j ≤ M.length ∧ i = .int .i64 j ∧ Hid (wr.ownsRow w3.heap.size 88 5 o (firstP (dif A B) M j).length (dCells A B (firstP (dif A B) M j)) ∧ Below w3.heap.size w3 wr)) (fun _ i _ => M.length - (intOf i).toNat)
  case atStart => exact ⟨0, Nat.zero_le _, rfl, Lib.hid ⟨World.ownsRow_nil _ _ _ _, Below.refl _ _⟩⟩
  case round =>
    obtain ⟨j, hj, rfl, HL⟩ := hrel
    by_cases hlt : j < M.length
    · obtain ⟨x, hx⟩ : ∃ x, M[j]? = some x := ⟨_, List.getElem?_eq_getElem hlt⟩
      obtain ⟨b, off, rfl, -, c0, c1, c2⟩ := sr_held (HR3.out.below HL.out.2) j x hx
      have hb1 := (Below.refl wr.heap.size wr).alloc (Nat.le_refl _) (.cells #[.int .i64 x.b, .int .u64 x.v, .string x.d] 45)
      have hy := heap_alloc_self wr (.cells #[.int .i64 x.b, .int .u64 x.v, .string x.d] 45)
      have HX := Lib.hid hx
      have hol := firstP_len (dif A B) M j
      have hwr := HL.out.2.size
      obtain ⟨hG1, hG2⟩ := get_wf HS13.out.2.2.2 x.b
      obtain ⟨hH1, hH2⟩ := get_wf HS23.out.2.2.2 x.b
      clear hx
      go_upto_region 6 with fail
      generalize wr.alloc (.cells #[.int .i64 x.b, .int .u64 x.v, .string x.d] 45) = w4 at *
      obtain ⟨d0, d1, d2⟩ := held_at hy
      have cA := sget _ _ _ _ _ (HS13.out.below (HL.out.2.trans (hb1.mono hwr))) x.b
      simp only [hitem] at cA
      have HY := Lib.hid hy
      have HB4 := Lib.hid hb1
      clear c0 c1 c2 hb1 hy
      obtain ⟨V, hV⟩ : ∃ V, gv (getL A x.b) = V := ⟨_, rfl⟩
      obtain ⟨D, hD⟩ : ∃ D, gd (getL A x.b) = D := ⟨_, rfl⟩
      obtain ⟨q, hq⟩ : ∃ q, (getL A x.b).isSome = q := ⟨_, rfl⟩
      obtain ⟨V', hV'⟩ : ∃ V, gv (getL B x.b) = V := ⟨_, rfl⟩
      obtain ⟨D', hD'⟩ : ∃ D, gd (getL B x.b) = D := ⟨_, rfl⟩
      obtain ⟨q', hq'⟩ : ∃ q, (getL B x.b).isSome = q := ⟨_, rfl⟩
      rw [hV, hD, hq] at cA
      rw [hV] at hG1
      rw [hD] at hG2
      rw [hV'] at hH1
      rw [hD'] at hH2
      have HLD := Lib.hid (diff_lit A B x.b)
      have HDC : Hid (dC A B x.b = [.int .i64 x.b, .int .u64 V, .string D, .int .u64 V', .string D']) := Lib.hid (by unfold dC; rw [hV, hD, hV', hD'])
      have hdif : dif A B x.b = decide (¬ (q = q' ∧ V = V' ∧ D = D')) := by unfold dif; rw [hV, hD, hq, hV', hD', hq']
      rw [hV, hD, hV', hD'] at HLD
      have HQ := Lib.hid (show gv (getL B x.b) = V' ∧ gd (getL B x.b) = D' ∧ (getL B x.b).isSome = q' from ⟨hV', hD', hq'⟩)
      have HDIF := Lib.hid hdif
      clear hV hD hq hV' hD' hq' hdif
      go_wp2_with fail
      refine Calls.mono cA ?_
      rintro e w5 ⟨rfl, hb5⟩
      have hbb := HB4.out.trans (hb5.mono HB4.out.size)
      have hb6 := hbb.alloc hbb.size (.cells #[.int .u64 V, .string D] 24)
      have hz := heap_alloc_self w5 (.cells #[.int .u64 V, .string D] 24)
      have y5 := below_at hb5 (lt_heap HY.out) HY.out
      have y6 := alloc_far (o := .cells #[.int .u64 V, .string D] 24) y5
      clear hb5 hbb y5 d0 d1 d2 cA
      go_upto_region 7 with fail
      generalize w5.alloc (.cells #[.int .u64 V, .string D] 24) = w6 at *
      obtain ⟨d0, d1, d2⟩ := held_at y6
      have cB := sget _ _ _ _ _ (HS23.out.below (HL.out.2.trans (hb6.mono hwr))) x.b
      simp only [hitem] at cB
      rw [HQ.out.1, HQ.out.2.1, HQ.out.2.2] at cB
      have HY6 := Lib.hid y6
      have HZ6 := Lib.hid hz
      have HB6 := Lib.hid hb6
      clear hb6 y6 hz
      go_wp2_with fail
      refine Calls.mono cB ?_
      rintro e w7 ⟨rfl, hb7⟩
      have hbb := HB6.out.trans (hb7.mono HB6.out.size)
      have hb8 := hbb.alloc hbb.size (.cells #[.int .u64 V', .string D'] 24)
      have hz := heap_alloc_self w7 (.cells #[.int .u64 V', .string D'] 24)
      have y8 := alloc_far (o := .cells #[.int .u64 V', .string D'] 24) (below_at hb7 (lt_heap HY6.out) HY6.out)
      have z8 := alloc_far (o := .cells #[.int .u64 V', .string D'] 24) (below_at hb7 (lt_heap HZ6.out) HZ6.out)
      clear hb7 hbb d0 d1 d2 cB
      go_upto_region 8 with fail
      generalize w7.alloc (.cells #[.int .u64 V', .string D'] 24) = w8 at *
      obtain ⟨d0, d1, d2⟩ := held_at y8
      obtain ⟨e0, e1, -, -⟩ := item_cells z8
      obtain ⟨f0, f1, -, -⟩ := item_cells hz
      have HB8 := Lib.hid (HL.out.2.trans (hb8.mono hwr))
      have HO8 := Lib.hid (owns_below HL.out.1 hb8)
      clear hb8 y8 z8 hz
      obtain ⟨p, hp⟩ : ∃ p, dif A B x.b = p := ⟨_, rfl⟩
      go_cut [47] (fun s wx => s = .bool p ∧ wx = w8)
      case first =>
        have hp2 : p = decide (¬ (q = q' ∧ V = V' ∧ D = D')) := by rw [← hp, HDIF.out]
        clear hp
        by_cases hqq : q = q'
        · subst hqq
          obtain ⟨r, hr⟩ : ∃ r : Bool, (r = true ↔ (V = V' ∧ D = D')) := ⟨decide (V = V' ∧ D = D'), by simp⟩
          have hn := fun w => item_dif V D V' D' w hG1 hG2 hH1 hH2 r hr
          obtain rfl : p = !r := by rw [hp2, Bool.eq_iff_iff]; simp [← hr]
          clear hp2 hr
          go_wp2_with fail
          go_meet
          exact ⟨rfl, rfl⟩
        · obtain rfl : p = true := by rw [hp2]; simp [hqq]
          obtain rfl : q' = !q := by clear HDIF HQ hp2; revert hqq; cases q <;> cases q' <;> decide
          clear hp2 hqq
          cases q
          all_goals
            go_wp2_with fail
            go_meet
            exact ⟨rfl, rfl⟩
      case rest =>
        obtain ⟨rfl, rfl⟩ := hcut
        obtain ⟨W0, hW0⟩ : ∃ W0, W0 = wc := ⟨_, rfl⟩
        subst hW0
        have HP := Lib.hid hp
        clear hp
        cases p
        · have hnx : firstP (dif A B) M (j + 1) = firstP (dif A B) M j := by rw [firstP_next HX.out, if_neg (by rw [HP.out]; decide), List.append_nil]
          have HNX := Lib.hid hnx
          clear hnx
          go_wp2_with fail
          go_roundw
          case rel => exact ⟨j + 1, by omega, by go_num, Lib.hid ⟨by rw [HNX.out]; exact HO8.out, HB8.out⟩⟩
          case measure => simp [intOf]; omega
        · have hnx : firstP (dif A B) M (j + 1) = firstP (dif A B) M j ++ [x.b] := by rw [firstP_next HX.out, if_pos HP.out]
          have HNX := Lib.hid hnx
          clear hnx
          have hb8s := HB8.out.size
          go_wp2_with (at_builtin; refine wp_app Try.underlying65 hi hz0 hz1 hz2 rfl (by decide) rfl (.tmp 48) (.tmp 54) rfl w3.heap.size _ _ _ rfl (HO8.out.alloc _) _ 1 (dC A B x.b) rfl (HLD.out _) ?c1 ?c2 ?c3 ?c4 ?_)
          case c1 => exact dC_one _ _ _
          case c2 => unfold maxLen; omega
          case c3 => omega
          case c4 => simp; omega
          intro v' w9 hown hgr
          have HO9 := Lib.hid (owns_dif hown)
          have HB9 := Lib.hid (app_below HB8.out hb8s HO8.out hgr)
          clear hown hgr
          go_wp2_with fail
          go_roundw
          case rel => exact ⟨j + 1, by omega, by go_num, Lib.hid ⟨by rw [HNX.out]; exact HO9.out, HB9.out⟩⟩
          case measure => simp [intOf]; omega
    · obtain rfl : j = M.length := by omega
      have HF := Lib.hid (HB3.out.trans (HL.out.2.mono HB3.out.size))
      go_wp2_with fail
      go_ret
      exact ⟨_, rfl, SR.owns HL.out.1, HF.out⟩
end Go.Proofs.Ytnjklhmnkjejfaa
