/-
  place.Pick where all are up and nothing is to do; the waking call of layer 41.
-/
import Derived.Test.YtadejhlljdcocaaPlc
namespace Go.Proofs.Ytadejhlljdcocaa
open Go.RowKit
set_option linter.unusedVariables false
set_option linter.unusedSimpArgs false

theorem sr_keepsP {N : Nat} {W w' : World} {v : Value} {size n : Nat} {xs : List Value} {X : Prop} (h : SR W v size n xs) (hN : W.heap.size = N) (hb : N ≤ w'.heap.size ∧ Below N W w' ∧ X) : SR w' v size n xs := by
  subst hN
  exact h.below hb.2.1
theorem owns_base {w : World} {a b n size : Nat} {e : TypeId} {v : Value} {xs : List Value} (h : w.ownsRow a e size v n xs) (hb : b ≤ a) : w.ownsRow b e size v n xs := by
  refine ⟨h.1, ?_⟩
  rcases h.2 with q | ⟨g, cap, cur, rfl, hg, r⟩
  · exact .inl q
  · exact .inr ⟨g, cap, cur, rfl, Nat.le_trans hb hg, r⟩
theorem clone_own (l : List Int) (w : World) (v : Value) (hv : SR w v 1 l.length (nCells l)) (hl : l.length ≤ 1000) :
    Calls Try.prog 153 #[v] w fun e w' => ∃ v', e = .returned v' ∧ w'.ownsRow w.heap.size 3 1 v' l.length (nCells l) ∧ Below w.heap.size w w' := by
  obtain ⟨a, cap, rfl, h1, h2, h3, h4⟩ := hv
  rcases h4 with h0 | ⟨b, off, rfl, hb, hc⟩
  · have : l = [] := List.eq_nil_of_length_eq_zero h0
    subst this
    cases a with
    | none =>
      refine (Try.slices_Clone_int_nil 0 cap w).mono ?_
      rintro e w' ⟨rfl, rfl⟩
      exact ⟨_, rfl, World.ownsRow_nil _ _ _ _, Below.refl _ _⟩
    | some ad =>
      refine (Try.slices_Clone_int_zero ad cap w).mono ?_
      rintro e w' ⟨v', rfl, ho, -, hb⟩
      exact ⟨v', rfl, ho, hb⟩
  · refine (Try.slices_Clone_int b off l.length cap l w (Nat.le_refl _) (by omega) (fun j hj => hc j _ (by simp [nCells, hj, List.getD]))).mono ?_
    rintro e w' ⟨v', rfl, ho, -, hb⟩
    rw [List.take_length] at ho
    exact ⟨v', rfl, ho, hb⟩
theorem sr_part {w : World} {b off n cap : Nat} {l : List Int} (h : SR w (.slice (some ⟨b, off, none⟩) n cap) 1 n (nCells l)) (i j : Nat) (hij : i ≤ j) (hj : j ≤ n) : SR w (.slice (some ⟨b, off + i, none⟩) (j - i) (cap - i)) 1 (j - i) (nCells ((l.take j).drop i)) := by
  obtain ⟨a', cap', he, h1, h2, h3, h4⟩ := h
  injection he with e1 _ e3
  subst e1 e3
  rw [nCells_length] at h3
  refine ⟨_, _, rfl, by omega, by unfold maxLen at *; omega, by simp [nCells]; omega, ?_⟩
  rcases Nat.eq_zero_or_pos (j - i) with h0 | h0
  · exact .inl h0
  · obtain ⟨b', off', e, hb, hc⟩ := h4.resolve_left (by omega)
    cases e
    refine .inr ⟨b, off + i, rfl, hb, fun k y hk => ?_⟩
    rw [Nat.add_assoc]
    refine hc (i + k) y ?_
    simp only [nCells, List.getElem?_map, List.getElem?_drop, List.getElem?_take] at hk ⊢
    split at hk
    · exact hk
    · simp at hk
theorem rise_all : riseL (fun _ => true) (fun _ => 0) = [0, 1, 2, 3, 4] := by
  unfold riseL
  have : cmpL (fun _ => 0) = fun _ _ => 0 := by funext x y; rfl
  rw [this, insTo_zero]
  rfl
def PickPost (w : World) (e : Ending) (w' : World) : Prop := ∃ v1 v2, e = .returned (.tuple #[v1, v2]) ∧ SR w' v1 1 2 (nCells [3, 4]) ∧ SR w' v2 1 3 (nCells [0, 1, 2]) ∧ Below w.heap.size w w'
section
variable {P : Program}
theorem stepP {t e : TypeId} {i : TypeInfo} {z : Value} {size bytes : Nat} (ht : P.underlying t = some (.slice e)) (hi : P.info? e = some i) (hz : i.zero = some z) (hsize : i.size = size) (hby : i.bytes = bytes)
    (hzs : z.cells.size = size) (hsz : 0 < size) {ops : Array Oper} {o : Oper} {a : Act} {K : Act → World → Prop} {Q : Exit → Act → World → Prop} {E : Prop} {w : World} (hgd : o.guard = none) (s x : Operand)
    (ho : o.op = .call { callee := .builtin .append, args := #[s, x], argTypes := #[t, t] }) (base : Nat) (v : Value) (n : Nat) (xs : List Value) (hs : a.eval s = v) (hown : w.ownsRow base e size v n xs)
    (u : Value) (m : Nat) (news : List Value) (hx : a.eval x = u) (hr : SR w u size m news)
    (h1 : ∀ y ∈ news, y.oneCell' = true) (h63 : n + m ≤ maxLen) (hbytes : (n + m) * bytes ≤ 140737488355328) (hbase : base ≤ w.heap.size)
    (h : ∀ v' w', w'.ownsRow base e size v' (n + m) (xs ++ news) → w.grownBy w' v.ownBlock → K (a.put o.dst v') w') :
    if Region.wanted o (yielded ops a.tmps) = true then Oper.wp P o a w K Q else E := by
  have hw : Region.wanted o (yielded ops a.tmps) = true := by simp [Region.wanted, hgd]
  rw [if_pos hw]
  obtain ⟨v', w', hrun, h2, h3⟩ := run_app (P := P) (ty := o.type) ht hi hz hsize hby hzs hsz w base v n xs hown u m news hr h1 h63 hbytes hbase
  unfold Oper.wp execOp
  simp only [ho, resolve, invoke, builtin, Sem.run_bind, Sem.run_pure, Result.andThen_ok, List.map_toArray, List.map_cons, List.map_nil, hs, hx, hrun]
  exact h v' w' h2 h3
end
theorem keepsP {N : Nat} {w w' w'' : World} {v : Value} {n size : Nat} {xs : List Value} {e : TypeId} {X : Prop} (h1 : N ≤ w'.heap.size ∧ Below N w w' ∧ X) (ho : w'.ownsRow N e size v n xs) (hg : w'.grownBy w'' v.ownBlock) : N ≤ w''.heap.size ∧ Below N w w'' ∧ ∀ b o, b < N → w''.cell? ⟨b, o, none⟩ = w.cell? ⟨b, o, none⟩ :=
  keeps_next h1 ⟨Nat.le_trans h1.1 hg.size, (Below.refl N w').grown hg h1.1 (fun q hq => (ho.lt q hq).1)⟩
set_option maxHeartbeats 3200000 in
set_option maxRecDepth 100000 in
theorem ppick (w : World) : Calls Try.prog 111 #[.agg #[.bool true, .bool true, .bool true, .bool true, .bool true], .agg #[.int .i64 0, .int .i64 0, .int .i64 0, .int .i64 0, .int .i64 0], .int .i64 2, .int .i64 3] w (PickPost w) := by
  obtain ⟨i0, hi, hz0, hz1, hz2⟩ := info_parts pinfo
  have hb0 : Below w.heap.size w ((w.alloc (.cells #[.bool true, .bool true, .bool true, .bool true, .bool true] 111)).alloc (.cells #[.int .i64 0, .int .i64 0, .int .i64 0, .int .i64 0, .int .i64 0] 118)) := ((Below.refl _ _).alloc (Nat.le_refl _) _).alloc (by simp) _
  have hx := pfar (heap_alloc_self w (.cells #[.bool true, .bool true, .bool true, .bool true, .bool true] 111)) (.cells #[.int .i64 0, .int .i64 0, .int .i64 0, .int .i64 0, .int .i64 0] 118)
  have hy := heap_alloc_self (w.alloc (.cells #[.bool true, .bool true, .bool true, .bool true, .bool true] 111)) (.cells #[.int .i64 0, .int .i64 0, .int .i64 0, .int .i64 0, .int .i64 0] 118)
  have hz : (w.alloc (.cells #[.bool true, .bool true, .bool true, .bool true, .bool true] 111)).heap.size = w.heap.size + 1 := by simp
  rw [hz] at hy
  have cr : ∀ w', Calls Try.prog 109 #[.agg #[.bool true, .bool true, .bool true, .bool true, .bool true], .agg #[.int .i64 0, .int .i64 0, .int .i64 0, .int .i64 0, .int .i64 0]] w' (RisePost (fun _ => true) (fun _ => 0) w') := fun w' => prising (fun _ => true) (fun _ => 0) w'
  have cw : ∀ w', Calls Try.prog 152 #[.int .i64 3, .int .i64 1] w' fun e w'' => e = .returned (.int .i64 3) ∧ w' = w'' := fun w' => pwithin 3 1 w'
  have cw2 : ∀ w', Calls Try.prog 152 #[.int .i64 2, .int .i64 0] w' fun e w'' => e = .returned (.int .i64 2) ∧ w' = w'' := fun w' => pwithin 2 0 w'
  go_enter Try.func111, Try.ntmps111
  go_upto_region 1 with fail
  generalize (w.alloc (.cells #[.bool true, .bool true, .bool true, .bool true, .bool true] 111)).alloc (.cells #[.int .i64 0, .int .i64 0, .int .i64 0, .int .i64 0, .int .i64 0] 118) = w1 at *
  have d0 := pcell hx 0 (v := .bool true) rfl
  have d1 := pcell hx 1 (v := .bool true) rfl
  have d2 := pcell hx 2 (v := .bool true) rfl
  have d3 := pcell hx 3 (v := .bool true) rfl
  have d4 := pcell hx 4 (v := .bool true) rfl
  have e0 := pcell hy 0 (v := .int .i64 0) rfl
  have e1 := pcell hy 1 (v := .int .i64 0) rfl
  have e2 := pcell hy 2 (v := .int .i64 0) rfl
  have e3 := pcell hy 3 (v := .int .i64 0) rfl
  have e4 := pcell hy 4 (v := .int .i64 0) rfl
  have HB0 := Lib.hid hb0
  clear hx hy hz hb0
  go_wp2_with fail
  refine Calls.mono (cr _) ?_
  rintro e w2 ⟨v, rfl, hv, hb2⟩
  rw [rise_all] at hv
  have hv : SR w2 v 1 5 (nCells [0, 1, 2, 3, 4]) := hv
  have HB2 := Lib.hid (HB0.out.trans (hb2.mono HB0.out.size))
  obtain ⟨a, cap, rfl, hc1, hc2⟩ := hv.form
  unfold maxLen at hc2
  obtain ⟨b, off, rfl, hbl, -⟩ := SR.int hv (by decide)
  have p1 := sr_part hv 3 5 (by decide) (by decide)
  rw [show (([0, 1, 2, 3, 4] : List Int).take 5).drop 3 = [3, 4] from rfl] at p1
  have p2 := sr_part hv 0 3 (by decide) (by decide)
  rw [show (([0, 1, 2, 3, 4] : List Int).take 3).drop 0 = [0, 1, 2] from rfl, Nat.add_zero, Nat.sub_zero, Nat.sub_zero] at p2
  have hc1' : ((cap : Int) - 3) = ((cap - 3 : Nat) : Int) := by omega
  have HP := Lib.hid (And.intro p1 p2)
  clear hb2 hv p1 p2 cr d0 d1 d2 d3 d4 e0 e1 e2 e3 e4 hc1'
  go_wp2_with fail
  refine Calls.mono (cw _) ?_
  rintro e w3 ⟨rfl, rfl⟩
  have hm3 : (min 3 5 : Int) = 3 := by decide
  have hm2 : (min 2 5 : Int) = 2 := by decide
  have hm4 : 3 < cap := by omega
  have hm5 : (3 : Int) ≤ cap := by omega
  obtain ⟨N, hN⟩ : ∃ N, w2.heap.size = N := ⟨_, rfl⟩
  have HN := Lib.hid hN
  have c1 : ∀ w', (N ≤ w'.heap.size ∧ Below N w2 w' ∧ ∀ b o, b < N → w'.cell? ⟨b, o, none⟩ = w2.cell? ⟨b, o, none⟩) → Calls Try.prog 153 #[.slice (some ⟨b, off + 3, none⟩) 2 (cap - 3)] w' fun e w'' => ∃ v', e = .returned v' ∧ w''.ownsRow N 3 1 v' 2 (nCells [3, 4]) ∧ Stays N w' w'' := fun w' h =>
    (clone_own [3, 4] w' _ (sr_keepsP HP.out.1 HN.out h) (by decide)).mono fun e w'' ⟨v', he, ho, hb⟩ => ⟨v', he, owns_base ho h.1, stays_of h.1 hb⟩
  have hcap3 : ¬ cap = 3 := by omega
  rw [hN] at hbl
  clear hv hN
  go_upto_region 5 with fail
  go_region_held3 (fun w' => N ≤ w'.heap.size ∧ Below N w2 w' ∧ ∀ b o, b < N → w'.cell? ⟨b, o, none⟩ = w2.cell? ⟨b, o, none⟩) (first | assumption | exact keeps_start HN.out | exact keeps_next (by assumption) (by assumption) | exact keepsP (by assumption) (by assumption) (by assumption)) (first | (go_at_call 153; refine Calls.mono (c1 _ (by assumption)) ?_; rintro e wz ⟨v', rfl, hown, hz⟩) | (refine stepP Try.underlying29 hi hz0 hz1 hz2 rfl (by decide) rfl (.tmp 27) (.tmp 30) rfl N _ _ _ rfl hown _ 3 (nCells [0, 1, 2]) rfl (sr_keepsP HP.out.2 HN.out (by assumption)) (nCells_one _) (by unfold maxLen; omega) (by omega) (And.left (by assumption)) ?_; intro v3 w9 hown2 hgr))
  rename_i hfin
  have hb9 := hfin.2.1
  have hO9 : w9.ownsRow N 3 1 v3 5 (nCells [3, 4, 0, 1, 2]) := hown2
  obtain ⟨g, cap2, rfl, hg1, hg2, -, hg4, -, -⟩ := rowl_of hO9 (by decide) rfl
  have hS9 := SR.owns hO9
  have q1 := sr_part hS9 0 2 (by decide) (by decide)
  rw [show (([3, 4, 0, 1, 2] : List Int).take 2).drop 0 = [3, 4] from rfl, Nat.add_zero, Nat.sub_zero, Nat.sub_zero] at q1
  have q2 := sr_keepsP HP.out.2 HN.out hfin
  have HQ := Lib.hid (And.intro q1 q2)
  have HB9 := Lib.hid (HB2.out.trans (hb9.mono (by have := HB2.out.size; have := HN.out; omega)))
  unfold maxLen at hg2
  obtain ⟨M, hM⟩ : ∃ M, w9.heap.size = M := ⟨_, rfl⟩
  have HM := Lib.hid hM
  have c2 : ∀ w', (M ≤ w'.heap.size ∧ Below M w9 w' ∧ ∀ b o, b < M → w'.cell? ⟨b, o, none⟩ = w9.cell? ⟨b, o, none⟩) → Calls Try.prog 153 #[.slice (some ⟨g, 0, none⟩) 2 cap2] w' fun e w'' => ∃ v', e = .returned v' ∧ w''.ownsRow M 3 1 v' 2 (nCells [3, 4]) ∧ Stays M w' w'' ∧ Below w'.heap.size w' w'' := fun w' h =>
    (clone_own [3, 4] w' _ (sr_keepsP HQ.out.1 HM.out h) (by decide)).mono fun e w'' ⟨v', he, ho, hb⟩ => ⟨v', he, owns_base ho h.1, stays_of h.1 hb, hb⟩
  have c3 : ∀ w', (M ≤ w'.heap.size ∧ Below M w9 w' ∧ ∀ b o, b < M → w'.cell? ⟨b, o, none⟩ = w9.cell? ⟨b, o, none⟩) → Calls Try.prog 153 #[.slice (some ⟨b, off, none⟩) 3 cap] w' fun e w'' => ∃ v', e = .returned v' ∧ w''.ownsRow M 3 1 v' 3 (nCells [0, 1, 2]) ∧ Stays M w' w'' ∧ Below w'.heap.size w' w'' := fun w' h =>
    (clone_own [0, 1, 2] w' _ (sr_keepsP HQ.out.2 HM.out h) (by decide)).mono fun e w'' ⟨v', he, ho, hb⟩ => ⟨v', he, owns_base ho h.1, stays_of h.1 hb, hb⟩
  have hm6 : (2 : Int) ≤ cap2 := by omega
  have hMb : b < M := Nat.lt_of_lt_of_le hbl (by have := hfin.1; omega)
  rw [hM] at hg4
  clear hown hown2 hgr hz hfin hb9 hO9 hS9 q1 q2 c1 cw hM
  go_upto_region 6 with fail
  go_region_held3 (fun w' => M ≤ w'.heap.size ∧ Below M w9 w' ∧ ∀ b o, b < M → w'.cell? ⟨b, o, none⟩ = w9.cell? ⟨b, o, none⟩) (first | assumption | exact keeps_start HM.out | exact keeps_next (by assumption) (by assumption)) (first | (go_at_call 152; refine Calls.mono (cw2 _) ?_; rintro e wz ⟨rfl, rfl⟩) | (go_at_call 153; ((with_reducible refine Calls.mono (c2 _ (by assumption)) ?_); rintro e wy ⟨v1, rfl, hown1, hz1, hy1⟩)) | (go_at_call 153; ((with_reducible refine Calls.mono (c3 _ (by assumption)) ?_); rintro e wx ⟨v2, rfl, hown2, hz2, hy2⟩)))
  rename_i hfin
  have HF := Lib.hid (show SR wx v1 1 2 (nCells [3, 4]) ∧ SR wx v2 1 3 (nCells [0, 1, 2]) ∧ Below w.heap.size w wx from ⟨(SR.owns hown1).below hy2, SR.owns hown2, HB9.out.trans (hfin.2.1.mono (by have := HB9.out.size; have := HM.out; omega))⟩)
  clear hown1 hown2 hy1 hy2 hz1 hz2 hfin c2 c3 cw2
  go_wp2_with fail
  go_returns
  exact ⟨_, _, rfl, HF.out⟩
theorem awake41 (w : World) : Calls Try.prog 58 #[] w fun e w' => e = .returned (.bool true) ∧ Below w.heap.size w w' := by
  have cp := fun w => ppick w
  go_enter Try.func58, Try.ntmps58
  go_wp2_with fail
  refine Calls.mono (cp _) ?_
  rintro e w2 ⟨v1, v2, rfl, h1, h2, hb⟩
  obtain ⟨a1, q1, rfl, hq1, hq2⟩ := h1.form
  obtain ⟨a2, q2, rfl, hq3, hq4⟩ := h2.form
  obtain ⟨b1, o1, rfl, -, k1⟩ := SR.int h1 (by decide)
  obtain ⟨b2, o2, rfl, -, k2⟩ := SR.int h2 (by decide)
  have c10 : w2.cell? ⟨b1, o1, none⟩ = some (.int .i64 3) := k1 0 (by decide)
  have c11 : w2.cell? ⟨b1, o1 + 1, none⟩ = some (.int .i64 4) := k1 1 (by decide)
  have c20 : w2.cell? ⟨b2, o2, none⟩ = some (.int .i64 0) := k2 0 (by decide)
  have c22 : w2.cell? ⟨b2, o2 + 2, none⟩ = some (.int .i64 2) := k2 2 (by decide)
  unfold maxLen at hq2 hq4
  have HB := Lib.hid hb
  clear h1 h2 k1 k2 hb cp
  go_wp2_with fail
  go_ret
  exact ⟨rfl, HB.out⟩
end Go.Proofs.Ytadejhlljdcocaa
