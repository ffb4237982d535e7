/-
  Several texts, laid together.
-/
import Derived.Test.YtadejhlljdcocaaMg14
import Derived.Test.YtadejhlljdcocaaMg15
/-
  tarnlaw09.Near: items near those that came in: a function of them alone.
-/



namespace Go.Proofs.Ytadejhlljdcocaa
open Go.RowKit
set_option linter.unusedVariables false
set_option linter.unusedSimpArgs false

abbrev heldSh : Sh := .two (.int .i64) (.two (.two (.int .u64) (.two .str .unit)) .unit)
section
variable {P : Program}
theorem step_appH {t e : TypeId} {i : TypeInfo} {z : Value} {size bytes : Nat} (ht : P.underlying t = some (.slice e)) (hi : P.info? e = some i) (hz : i.zero = some z) (hsize : i.size = size) (hby : i.bytes = bytes)
    (hzs : z.cells.size = size) (hsz : 0 < size) {ops : Array Oper} {o : Oper} {a : Act} {K : Act → World → Prop} {Q : Exit → Act → World → Prop} {E : Prop} {w : World} (hgd : o.guard = none) (s x : Operand)
    (ho : o.op = .call { callee := .builtin .append, args := #[s, x], argTypes := #[t, t] }) (base : Nat) (v : Value) (n : Nat) (xs : List Value) (hs : a.eval s = v) (hown : w.ownsRow base e size v n xs)
    (u : Value) (m : Nat) (news : List Value) (hx : a.eval x = u) (hr : SR w u size m news)
    (h1 : ∀ y ∈ news, y.oneCell' = true) (h63 : n + m ≤ maxLen) (hbytes : (n + m) * bytes ≤ 140737488355328) (hbase : base ≤ w.heap.size)
    (h : ∀ v' w', w'.ownsRow base e size v' (n + m) (xs ++ news) → w.grownBy w' v.ownBlock → K (a.put o.dst v') w') :
    if Region.wanted o (yielded ops a.tmps) = true then Oper.wp P o a w K Q else E := by
  have hw : Region.wanted o (yielded ops a.tmps) = true := by simp [Region.wanted, hgd]
  rw [if_pos hw]
  obtain ⟨v', w', hrun, h2, h3⟩ := run_app (P := P) (ty := o.type) ht hi hz hsize hby hzs hsz w base v n xs hown u m news hr h1 h63 hbytes hbase
  unfold Oper.wp execOp
  simp only [ho, resolve, invoke, builtin, Sem.run_bind, Sem.run_pure, Result.andThen_ok, List.map_toArray, List.map_cons, List.map_nil, hs, hx, hrun]
  exact h v' w' h2 h3
end
/-- whatever came in -/
structure Raw (x : HI) : Prop where
  b : (Lit.int .i64 x.b).wf = true
  v : (Lit.int .u64 x.v).wf = true
  d : x.d.size ≤ maxLen
theorem fits_held1 {w : World} {ys : List Value} (h : Fits w heldSh ys) : ∃ x : HI, ys = [.int .i64 x.b, .int .u64 x.v, .string x.d] ∧ Raw x := by
  obtain ⟨x0, y0, rfl, ⟨tb, rfl, hb⟩, x1, y1, rfl, ⟨x3, y3, rfl, ⟨tv, rfl, hv⟩, x4, y4, rfl, ⟨td, rfl, hd⟩, rfl⟩, rfl⟩ := h
  exact ⟨⟨tb, tv, td⟩, rfl, hb, hv, hd⟩
theorem hCells_get : ∀ (l : List HI) (j : Nat) (u : Value), (hCells l)[j]? = some u → ∃ x, l[j / 3]? = some x ∧ [Value.int .i64 x.b, .int .u64 x.v, .string x.d][j % 3]? = some u
  | [], j, u, h => by simp [hCells] at h
  | x :: t, 0, u, h => ⟨x, rfl, h⟩
  | x :: t, 1, u, h => ⟨x, rfl, h⟩
  | x :: t, 2, u, h => ⟨x, rfl, h⟩
  | x :: t, j + 3, u, h => by
    obtain ⟨y, h1, h2⟩ := hCells_get t j u (by simpa [hCells] using h)
    exact ⟨y, by rw [show (j + 3) / 3 = j / 3 + 1 by omega]; simpa using h1, by rw [show (j + 3) % 3 = j % 3 by omega]; exact h2⟩
theorem fits_held {w : World} {a : Option Addr} {len cap : Nat} (h : Fits w (.slice heldSh) [.slice a len cap]) : ∃ rs : List HI, rs.length = len ∧ SR w (.slice a len cap) 3 len (hCells rs) ∧ ∀ x ∈ rs, Raw x := by
  obtain ⟨hlc, hcm, hel⟩ := h.slice
  rcases Nat.eq_zero_or_pos len with h0 | h0
  · subst h0
    exact ⟨[], rfl, ⟨a, cap, rfl, hlc, hcm, rfl, .inl rfl⟩, by simp⟩
  · obtain ⟨b, off, rfl, hb, hi⟩ := hel.resolve_left (by omega)
    have hx : ∀ i, i < len → ∃ x : HI, Raw x ∧ ∀ (k : Nat) u, [Value.int .i64 x.b, .int .u64 x.v, .string x.d][k]? = some u → w.cell? ⟨b, off + i * 3 + k, none⟩ = some u := fun i hlt => by
      obtain ⟨ys, _, hc, hf⟩ := hi i hlt
      obtain ⟨x, rfl, hr⟩ := fits_held1 hf
      exact ⟨x, hr, hc⟩
    have hrs : ∀ n, n ≤ len → ∃ rs : List HI, rs.length = n ∧ (∀ x ∈ rs, Raw x) ∧ ∀ i x, rs[i]? = some x → ∀ (k : Nat) u, [Value.int .i64 x.b, .int .u64 x.v, .string x.d][k]? = some u → w.cell? ⟨b, off + i * 3 + k, none⟩ = some u := by
      intro n
      induction n with
      | zero => exact fun _ => ⟨[], rfl, by simp, fun i x e => by simp at e⟩
      | succ n ih =>
        intro hn
        obtain ⟨rs, h1, h2, h3⟩ := ih (by omega)
        obtain ⟨x, hr, hc⟩ := hx n (by omega)
        refine ⟨rs ++ [x], by simp [h1], fun y hy => ?_, fun i y e => ?_⟩
        · rcases List.mem_append.1 hy with q | q
          · exact h2 y q
          · rw [List.mem_singleton.1 q]; exact hr
        · rcases Nat.lt_trichotomy i n with q | q | q
          · rw [List.getElem?_append_left (by omega)] at e
            exact h3 i y e
          · subst q
            rw [List.getElem?_append_right (by omega), h1, Nat.sub_self] at e
            simp only [List.getElem?_cons_zero, Option.some.injEq] at e
            subst e
            exact hc
          · have := (List.getElem?_eq_some_iff.1 e).1
            simp [h1] at this
            omega
    obtain ⟨rs, h1, h2, h3⟩ := hrs len (Nat.le_refl _)
    refine ⟨rs, h1, ⟨some ⟨b, off, none⟩, cap, rfl, hlc, hcm, (hCells_length rs).trans (by rw [h1]), .inr ⟨b, off, rfl, hb, fun j u hj => ?_⟩⟩, h2⟩
    obtain ⟨x, q1, q2⟩ := hCells_get rs j u hj
    have := h3 _ _ q1 _ _ q2
    rwa [Nat.add_assoc, show j / 3 * 3 + j % 3 = j by omega] at this
theorem keeps_app {N : Nat} {w0 w w' : World} {X : Prop} {e : TypeId} {size n : Nat} {v : Value} {xs : List Value} (h1 : N ≤ w.heap.size ∧ Below N w0 w ∧ X) (hg : w.grownBy w' v.ownBlock) (hown : w.ownsRow N e size v n xs) : N ≤ w'.heap.size ∧ Below N w0 w' ∧ ∀ b k, b < N → w'.cell? ⟨b, k, none⟩ = w0.cell? ⟨b, k, none⟩ :=
  have h := below_app h1.2.1 hg hown (Nat.le_refl _) h1.1
  ⟨Nat.le_trans h1.1 hg.size, h, fun b o hb => h.cell (p := ⟨b, o, none⟩) hb⟩
theorem mask63 (x : Int) : bits .and .i64 x 63 = x % 64 := mask_mod x 6 63 (by decide) (by decide)
/-- an item of a block near one that came in -/
def nearX (x : HI) : HI := ⟨bits .and .i64 x.b 63, x.v, nearD x.d (x.b / 64)⟩
def nearL (rs : List HI) : List HI := (rs.take 12).map nearX
theorem nearX_ok {x : HI} (h : Raw x) : Ok (nearX x) ∧ 0 ≤ (nearX x).b ∧ (nearX x).b < 64 := by
  have hm := mask63 x.b
  refine ⟨⟨wf_bits .and .i64 x.b 63, h.v, nearD_size x.d (x.b / 64)⟩, ?_, ?_⟩
  · show 0 ≤ bits .and .i64 x.b 63
    omega
  · show bits .and .i64 x.b 63 < 64
    omega
theorem near_lit {x : HI} {B : Int} {D : ByteArray} (hB : bits .and .i64 x.b 63 = B) (hD : nearD x.d (x.b / 64) = D) (w : World) :
    SR (w.alloc (.cells #[.int .i64 B, .int .u64 x.v, .string D] 125)) (.slice (some ⟨w.heap.size, 0, none⟩) 1 1) 3 1 (hCells [nearX x]) := by
  subst hB hD
  exact good_lit (nearX x) w
theorem nearL_ok {rs : List HI} (h : ∀ x ∈ rs, Raw x) : ∀ x ∈ nearL rs, Ok x := fun x hx => by
  obtain ⟨y, hy, rfl⟩ := List.mem_map.1 hx
  exact (nearX_ok (h y (List.mem_of_mem_take hy))).1
theorem nearL_len (rs : List HI) : (nearL rs).length ≤ 12 := by simp [nearL]; omega
theorem nearL_next {rs : List HI} {j : Nat} {x : HI} (hx : rs[j]? = some x) (hj : j < 12) : nearL (rs.take (j + 1)) = nearL (rs.take j) ++ [nearX x] := by
  unfold nearL
  rw [List.take_take, List.take_take, Nat.min_eq_right (by omega), Nat.min_eq_right (by omega), take_next hx, List.map_append]
  rfl
set_option maxHeartbeats 1600000 in
set_option maxRecDepth 100000 in
theorem near09 (rs : List HI) (hr : ∀ x ∈ rs, Raw x) (w : World) (v : Value) (hv : SR w v 3 rs.length (hCells rs)) :
    Calls Try.prog 64 #[v] w fun e w' => ∃ v', e = .returned v' ∧ w'.ownsRow w.heap.size 125 3 v' (nearL rs).length (hCells (nearL rs)) ∧ Below w.heap.size w w' := by
  obtain ⟨i0, hi, hz0, hz1, hz2⟩ := info_parts info_held
  obtain ⟨a, cap, rfl, hlc, hcm⟩ := hv.form
  unfold maxLen at hcm
  have HV := Lib.hid hv
  have HR := Lib.hid hr
  have hitem : ∀ (x : Int) (D : ByteArray), itemA x D = #[.int .u64 x, .string D] := fun _ _ => rfl
  clear hv hr
  go_enter Try.func64, Try.ntmps64
  go_wp2_with fail
  go_loopw [2, 3] (fun o i wr => ∃ j : Nat, j ≤ rs.length ∧ j ≤ 12 ∧ i = .int .i64 j ∧ Hid (wr.ownsRow w.heap.size 125 3 o (nearL (rs.take j)).length (hCells (nearL (rs.take j))) ∧ Below w.heap.size w wr)) (fun _ i _ => 12 - (intOf i).toNat)
  case atStart => exact ⟨0, Nat.zero_le _, Nat.zero_le _, rfl, Lib.hid ⟨World.ownsRow_nil _ _ _ _, Below.refl _ _⟩⟩
  case round =>
    obtain ⟨j, hj, hj12, rfl, HL⟩ := hrel
    by_cases hin : j < rs.length ∧ j < 12
    · obtain ⟨h1, h2⟩ := hin
      obtain ⟨x, hx⟩ : ∃ x, rs[j]? = some x := ⟨_, List.getElem?_eq_getElem h1⟩
      obtain ⟨b, off, rfl, hbl, c0, c1, c2⟩ := sr_held HV.out j x hx
      have HX := Lib.hid hx
      have hxr := HR.out x (List.mem_of_getElem? hx)
      have hxb := wf_le hxr.b
      have cn := fun w => near_det x.v x.d (x.b / 64) hxr.d w
      simp only [hitem] at cn
      have hlj : (j : Int) < rs.length := by omega
      have h0j : (0 : Int) ≤ j := by omega
      have hol := nearL_len (rs.take j)
      have hwr := HL.out.2.size
      obtain ⟨N, hN⟩ : ∃ N, w.heap.size = N := ⟨_, rfl⟩
      rw [hN] at hbl hwr
      have HLN := HL.out
      rw [hN] at HLN
      have HN := Lib.hid hN
      have HLN' := Lib.hid HLN
      obtain ⟨L, hL⟩ : ∃ L, nearL (rs.take j) = L := ⟨_, rfl⟩
      rw [hL] at HLN' hol
      have HLL := Lib.hid hL
      obtain ⟨B, hB⟩ : ∃ B, bits .and .i64 x.b 63 = B := ⟨_, rfl⟩
      obtain ⟨D, hD⟩ : ∃ D, nearD x.d (x.b / 64) = D := ⟨_, rfl⟩
      have HBB := Lib.hid hB
      have HDD := Lib.hid hD
      rw [hD] at cn
      have ks : N ≤ wr.drew.heap.size ∧ Below N w wr.drew ∧ ∀ b o, b < N → wr.drew.cell? ⟨b, o, none⟩ = w.cell? ⟨b, o, none⟩ := ⟨hwr, below_drew' HLN.2, fun b o hb => (below_drew' HLN.2).cell (p := ⟨b, o, none⟩) hb⟩
      have c3 : ∀ w', N ≤ w'.heap.size → Calls Try.prog 115 #[.agg #[.int .u64 x.v, .string x.d], .int .i64 (x.b / 64)] w' fun e w'' => e = .returned (.agg #[.int .u64 x.v, .string D]) ∧ Stays N w' w'' ∧ Below w'.heap.size w' w'' := fun w' h => (cn w').mono fun e w'' ⟨he, hw⟩ => ⟨he, stays_of h hw, hw⟩
      clear hx hxr cn HLN hN hL hD
      go_upto_region 4 with fail
      go_region_held3 (fun w' => N ≤ w'.heap.size ∧ Below N w w' ∧ ∀ b o, b < N → w'.cell? ⟨b, o, none⟩ = w.cell? ⟨b, o, none⟩) (first | exact ks | exact keeps_next (by assumption) (by assumption) | exact keeps_alloc (by assumption) | exact keeps_app (by assumption) (by assumption) (by assumption)) (first | (go_at_call 115; refine Calls.mono (c3 _ (And.left (by assumption))) ?_; rintro e wz ⟨rfl, hz, hzz⟩) | (have hoA := (owns_below (w := wr.drew) HLN'.out.1 hzz).alloc (.cells #[.int .i64 B, .int .u64 x.v, .string D] 125); refine step_appH Try.underlying81 hi hz0 hz1 hz2 rfl (by decide) rfl (.tmp 14) (.tmp 34) rfl N _ L.length (hCells L) rfl hoA _ 1 (hCells [nearX x]) rfl (near_lit HBB.out HDD.out _) (hCells_one _) (by unfold maxLen; omega) (by omega) (And.left (by assumption)) ?_; intro v' w9 hown hgr))
      all_goals
        rename_i hfin
        have HO9 := Lib.hid (owns_app hown)
        have HB9 := Lib.hid hfin.2.1
        clear hown hgr hoA hzz hz hfin ks c0 c1 c2 c3
        go_wp2_with fail
        go_roundw
        case rel =>
          refine ⟨j + 1, by omega, by omega, by go_num, Lib.hid ?_⟩
          rw [nearL_next HX.out h2, HLL.out, HN.out]
          exact ⟨HO9.out, HB9.out⟩
        case measure => simp [intOf]; omega
    · have hfin : j = rs.length ∨ j = 12 := by omega
      have hq : nearL (rs.take j) = nearL rs := by
        rcases hfin with h | h
        · rw [h, List.take_length]
        · rw [h]; unfold nearL; rw [List.take_take, Nat.min_self]
      have HQ := HL.out
      rw [hq] at HQ
      have HQ' := Lib.hid HQ
      clear HQ hq hfin
      go_wp2_with fail
      all_goals
        go_ret
        exact ⟨_, rfl, HQ'.out.1, HQ'.out.2⟩
end Go.Proofs.Ytadejhlljdcocaa
/-
  What a node tells, of layer 30's law: near.
-/


namespace Go.Proofs.Ytadejhlljdcocaa
open Go.RowKit
set_option linter.unusedVariables false
set_option linter.unusedSimpArgs false

theorem keepsT_start {N : Nat} {w : World} (h : N ≤ w.heap.size) : N ≤ w.drew.heap.size ∧ Below N w w.drew ∧ ∀ b o, b < N → w.drew.cell? ⟨b, o, none⟩ = w.cell? ⟨b, o, none⟩ :=
  ⟨h, below_drew' (Below.refl _ _), fun _ _ _ => rfl⟩
theorem keepsT_two {N : Nat} {w w' : World} {X : Prop} (h1 : N ≤ w'.heap.size ∧ Below N w w' ∧ X) : N ≤ w'.heap.size ∧ Below N w w' := ⟨h1.1, h1.2.1⟩
theorem keeps_set4 {N : Nat} {w w' : World} {X : Prop} {b : Nat} {v0 v1 v2 v3 : Value} (h1 : N ≤ w'.heap.size ∧ Below N w w' ∧ X) (hb : N ≤ b) : N ≤ ((((w'.setCell ⟨b, 0, none⟩ v0).setCell ⟨b, 1, none⟩ v1).setCell ⟨b, 2, none⟩ v2).setCell ⟨b, 3, none⟩ v3).heap.size ∧ Below N w ((((w'.setCell ⟨b, 0, none⟩ v0).setCell ⟨b, 1, none⟩ v1).setCell ⟨b, 2, none⟩ v2).setCell ⟨b, 3, none⟩ v3) ∧ ∀ c k, c < N → ((((w'.setCell ⟨b, 0, none⟩ v0).setCell ⟨b, 1, none⟩ v1).setCell ⟨b, 2, none⟩ v2).setCell ⟨b, 3, none⟩ v3).cell? ⟨c, k, none⟩ = w.cell? ⟨c, k, none⟩ :=
  have h := (((h1.2.1.setCell (p := ⟨b, 0, none⟩) hb v0).setCell (p := ⟨b, 1, none⟩) hb v1).setCell (p := ⟨b, 2, none⟩) hb v2).setCell (p := ⟨b, 3, none⟩) hb v3
  ⟨by simpa using h1.1, h, fun c k hc => h.cell (p := ⟨c, k, none⟩) hc⟩
/-- a node that tells what may be read -/
structure RawT (t : TD) : Prop where
  A : ∀ x ∈ t.A, Raw x
  D : ∀ x ∈ t.D, Raw x
noncomputable def ofL (l : List HI) : List HI := putAll [] (nearL l)
def NearT (t : TD) (w : World) (e : Ending) (w' : World) : Prop :=
  ∃ vD vA, e = .returned (.agg #[.int .i64 (bits .and .i64 t.e 3), .int .i64 (bits .and .i64 t.d 3), vD, vA]) ∧ SR w' vD 3 (ofL t.D).length (hCells (ofL t.D)) ∧ SR w' vA 3 (ofL t.A).length (hCells (ofL t.A)) ∧ Below w.heap.size w w' ∧ (∀ b, vD.ownBlock = some b → w.heap.size < b) ∧ ∀ b, vA.ownBlock = some b → w.heap.size < b
theorem near_call (l : List HI) (hl : ∀ x ∈ l, Raw x) (n K : Nat) (hn : l.length = n) (hK : (nearL l).length = K) (N : Nat) (a : Option Addr) (c : Nat) (w : World) (h : SR w (.slice a n c) 3 n (hCells l)) (hW : N ≤ w.heap.size) :
    Calls Try.prog 64 #[.slice a n c] w fun e w' => ∃ a1 p1, e = .returned (.slice a1 K p1) ∧ SR w' (.slice a1 K p1) 3 K (hCells (nearL l)) ∧ Below w.heap.size w w' ∧ Stays N w w' := by
  subst hn
  refine Calls.mono (near09 l hl w _ h) ?_
  rintro e w' ⟨v', rfl, ho, hb⟩
  have hs := SR.owns ho
  rw [hK] at hs
  obtain ⟨a1, p1, rfl, -, -⟩ := hs.form
  exact ⟨a1, p1, rfl, hs, hb, stays_of hW hb⟩
theorem sr_set {w : World} {a : Option Addr} {size n cap : Nat} {xs : List Value} {p : Addr} {u : Value} (h : SR w (.slice a n cap) size n xs) (hn : ∀ b, (Value.slice a n cap).ownBlock = some b → p.block < b) : SR (w.setCell p u) (.slice a n cap) size n xs := by
  obtain ⟨a', cap', e, h1, h2, h3, h4⟩ := h
  injection e with e1 e2 e3
  subst e1 e3
  refine ⟨a, cap, rfl, h1, h2, h3, h4.imp id ?_⟩
  rintro ⟨b, off, rfl, hlt, hc⟩
  have hb : p.block < b := hn b rfl
  exact ⟨b, off, rfl, by simpa using hlt, fun j v hj => (World.cell?_of_block (a := ⟨b, off + j, none⟩) (Below.heap_setCell w p u b (by omega))).trans (hc j v hj)⟩
theorem rof_call (l : List HI) (hl : ∀ x ∈ l, Raw x) (K M : Nat) (hK : (nearL l).length = K) (hM : (ofL l).length = M) (N : Nat) (a : Option Addr) (c : Nat) (w : World) (hv : SR w (.slice a K c) 3 K (hCells (nearL l))) (hW : N ≤ w.heap.size) (hs : N < w.heap.size) :
    Calls Try.prog 63 #[.slice a K c] w fun e w' => ∃ a1 p1, e = .returned (.slice a1 M p1) ∧ SR w' (.slice a1 M p1) 3 M (hCells (ofL l)) ∧ (∀ b, (Value.slice a1 M p1).ownBlock = some b → N < b) ∧ Below w.heap.size w w' ∧ Stays N w w' := by
  subst hK
  refine Calls.mono (rof (nearL l) (fun x hx => ?_) w _ hv) ?_
  · obtain ⟨y, hy, rfl⟩ := List.mem_map.1 hx
    exact (nearX_ok (hl y (List.mem_of_mem_take hy))).1
  · rintro e w' ⟨v', rfl, hq, ho, hb⟩
    change SR w' v' 3 (ofL l).length (hCells (ofL l)) at hq
    rw [hM] at hq
    obtain ⟨a1, p1, rfl, -, -⟩ := hq.form
    exact ⟨a1, p1, rfl, hq, fun b e => by have := (ho b e).1; omega, hb, stays_of hW hb⟩
set_option maxHeartbeats 12800000 in
set_option maxRecDepth 400000 in
theorem near30 (t : TD) (hr : RawT t) (w : World) (ht : t.at_ w) : Calls Try.prog 44 #[.agg t.cells] w (NearT t w) := by
  obtain ⟨⟨aD, cD, eD⟩, ⟨aA, cA, eA⟩⟩ := TD.forms ht
  have hcl : t.cells = #[.int .i64 t.e, .int .i64 t.d, .slice aD t.D.length cD, .slice aA t.A.length cA] := by unfold TD.cells; rw [eD, eA]
  obtain ⟨hD, hA⟩ := ht
  rw [eD] at hD
  rw [eA] at hA
  rw [hcl]
  have hb0 := (Below.refl w.heap.size w).alloc (Nat.le_refl _) (.cells #[.int .i64 t.e, .int .i64 t.d, .slice aD t.D.length cD, .slice aA t.A.length cA] 83)
  have hz : (w.alloc (.cells #[.int .i64 t.e, .int .i64 t.d, .slice aD t.D.length cD, .slice aA t.A.length cA] 83)).heap.size = w.heap.size + 1 := by simp
  have hx0 := heap_alloc_self w (.cells #[.int .i64 t.e, .int .i64 t.d, .slice aD t.D.length cD, .slice aA t.A.length cA] 83)
  have hy := heap_alloc_self (w.alloc (.cells #[.int .i64 t.e, .int .i64 t.d, .slice aD t.D.length cD, .slice aA t.A.length cA] 83)) (.cells #[.int .i64 0, .int .i64 0, .slice none 0 0, .slice none 0 0] 83)
  rw [hz] at hy
  have hb := hb0.alloc (by simp) (.cells #[.int .i64 0, .int .i64 0, .slice none 0 0, .slice none 0 0] 83)
  have hx := (Below.heap_alloc _ (.cells #[.int .i64 0, .int .i64 0, .slice none 0 0, .slice none 0 0] 83) _ (lt_heap hx0)).trans hx0
  obtain ⟨N, hN⟩ : ∃ N, w.heap.size + 1 = N := ⟨_, rfl⟩
  obtain ⟨n1, hn1⟩ : ∃ n, t.D.length = n := ⟨_, rfl⟩
  obtain ⟨n2, hn2⟩ : ∃ n, t.A.length = n := ⟨_, rfl⟩
  obtain ⟨K1, hK1⟩ : ∃ n, (nearL t.D).length = n := ⟨_, rfl⟩
  obtain ⟨K2, hK2⟩ : ∃ n, (nearL t.A).length = n := ⟨_, rfl⟩
  obtain ⟨M1, hM1⟩ : ∃ n, (ofL t.D).length = n := ⟨_, rfl⟩
  obtain ⟨M2, hM2⟩ : ∃ n, (ofL t.A).length = n := ⟨_, rfl⟩
  unfold NearT
  rw [hM1, hM2]
  have HR := Lib.hid hr
  have HD := Lib.hid hD
  have HA := Lib.hid hA
  rw [hn1, hn2] at hcl
  rw [hn1] at HD
  rw [hn2] at HA
  rw [hn1, hn2] at hb hx hy
  rw [hn1, hn2]
  have n1' := Lib.hid hn1
  have n2' := Lib.hid hn2
  have HK := Lib.hid (And.intro hK1 (And.intro hK2 (And.intro hM1 hM2)))
  clear hD hA hr hcl eD eA hb0 hz hx0 hn1 hn2 hK1 hK2 hM1 hM2
  go_enter Try.func44, Try.ntmps44
  go_upto_region 1 with fail
  generalize (w.alloc (.cells #[.int .i64 t.e, .int .i64 t.d, .slice aD n1 cD, .slice aA n2 cA] 83)).alloc (.cells #[.int .i64 0, .int .i64 0, .slice none 0 0, .slice none 0 0] 83) = W at *
  obtain ⟨E, hE⟩ : ∃ E, E = t.e := ⟨_, rfl⟩
  obtain ⟨G, hG⟩ : ∃ E, E = t.d := ⟨_, rfl⟩
  rw [← hE, ← hG] at hx
  simp only [← hE, ← hG]
  have HE := Lib.hid (And.intro hE hG)
  have c0 := scell hx 0 (v := .int .i64 E) rfl
  have c1 := scell hx 1 (v := .int .i64 G) rfl
  have c2 := scell hx 2 (v := .slice aD n1 cD) rfl
  have c3 := scell hx 3 (v := .slice aA n2 cA) rfl
  have hlt : w.heap.size < N := by omega
  have hNW : N ≤ W.heap.size := by have := lt_heap hy; omega
  have cN1 := fun w' (h : N ≤ w'.heap.size ∧ Below N W w') => near_call t.D HR.out.D n1 K1 n1'.out HK.out.1 N aD cD w' (HD.out.below (hb.trans (h.2.mono (by omega)))) h.1
  have cN2 := fun w' (h : N ≤ w'.heap.size ∧ Below N W w') => near_call t.A HR.out.A n2 K2 n2'.out HK.out.2.1 N aA cA w' (HA.out.below (hb.trans (h.2.mono (by omega)))) h.1
  have cO1 := fun w' a c (hs : SR w' (.slice a K1 c) 3 K1 (hCells (nearL t.D))) (h : N ≤ w'.heap.size ∧ Below N W w') (hs2 : N < w'.heap.size) => rof_call t.D HR.out.D K1 M1 HK.out.1 HK.out.2.2.1 N a c w' hs h.1 hs2
  have cO2 := fun w' a c (hs : SR w' (.slice a K2 c) 3 K2 (hCells (nearL t.A))) (h : N ≤ w'.heap.size ∧ Below N W w') (hs2 : N < w'.heap.size) => rof_call t.A HR.out.A K2 M2 HK.out.2.1 HK.out.2.2.2 N a c w' hs h.1 hs2
  have HB := Lib.hid hb
  have hNN : N ≤ N := Nat.le_refl _
  rw [hN] at hy
  clear hb HD HA hx hN hE hG
  go_region_held3 (fun w' => N ≤ w'.heap.size ∧ Below N W w' ∧ ∀ b o, b < N → w'.cell? ⟨b, o, none⟩ = W.cell? ⟨b, o, none⟩) (first | exact keepsT_start hNW | exact keeps_next (by assumption) (by assumption) | exact keeps_set4 (by assumption) hNN) (first | (go_at_call 64; (with_reducible refine Calls.mono (cN1 _ ?hk) ?_); (case hk => exact keepsT_two (by assumption)); rintro e wz ⟨a1, p1, rfl, hD1, hbz, hzz⟩; replace hy := below_at hbz (lt_heap hy) hy; (try replace hA1 := hA1.below hbz); (try replace hA2 := hA2.below hbz); clear hbz) | (go_at_call 64; (with_reducible refine Calls.mono (cN2 _ ?hk) ?_); (case hk => exact keepsT_two (by assumption)); rintro e wz ⟨a2, p2, rfl, hA1, hbz, hzz⟩; replace hy := below_at hbz (lt_heap hy) hy; (try replace hD1 := hD1.below hbz); (try replace hD2 := hD2.below hbz); clear hbz) | (go_at_call 63; (with_reducible refine Calls.mono (cO1 _ _ _ hD1 ?hk (lt_heap hy)) ?_); (case hk => exact keepsT_two (by assumption)); rintro e wz ⟨a3, p3, rfl, hD2, hDo, hbz, hzz⟩; clear hD1; replace hy := below_at hbz (lt_heap hy) hy; (try replace hA1 := hA1.below hbz); (try replace hA2 := hA2.below hbz); have y0 := scell hy 0 (v := .int .i64 0) rfl; have y1 := scell hy 1 (v := .int .i64 0) rfl; have y2 := scell hy 2 (v := .slice none 0 0) rfl; have y3 := scell hy 3 (v := .slice none 0 0) rfl; have f0 := sfrz hy 0; have f1 := sfrz hy 1; have f2 := sfrz hy 2; have f3 := sfrz hy 3; clear hbz) | (go_at_call 63; (with_reducible refine Calls.mono (cO2 _ _ _ hA1 ?hk (lt_heap hy)) ?_); (case hk => exact keepsT_two (by assumption)); rintro e wz ⟨a4, p4, rfl, hA2, hAo, hbz, hzz⟩; clear hA1; replace hy := below_at hbz (lt_heap hy) hy; (try replace hD1 := hD1.below hbz); (try replace hD2 := hD2.below hbz); have y0 := scell hy 0 (v := .int .i64 0) rfl; have y1 := scell hy 1 (v := .int .i64 0) rfl; have y2 := scell hy 2 (v := .slice none 0 0) rfl; have y3 := scell hy 3 (v := .slice none 0 0) rfl; have f0 := sfrz hy 0; have f1 := sfrz hy 1; have f2 := sfrz hy 2; have f3 := sfrz hy 3; clear hbz))
  rename_i hfin
  have HX := Lib.hid (heap_set_self (heap_set_self (heap_set_self (heap_set_self hy 0 (.int .i64 (bits .and .i64 E 3))) 1 (.int .i64 (bits .and .i64 G 3))) 2 (.slice a3 M1 p3)) 3 (.slice a4 M2 p4))
  have HD2 := Lib.hid (sr_set (p := ⟨N, 3, none⟩) (u := .slice a4 M2 p4) (sr_set (p := ⟨N, 2, none⟩) (u := .slice a3 M1 p3) (sr_set (p := ⟨N, 1, none⟩) (u := .int .i64 (bits .and .i64 G 3)) (sr_set (p := ⟨N, 0, none⟩) (u := .int .i64 (bits .and .i64 E 3)) hD2 hDo) hDo) hDo) hDo)
  have HA2 := Lib.hid (sr_set (p := ⟨N, 3, none⟩) (u := .slice a4 M2 p4) (sr_set (p := ⟨N, 2, none⟩) (u := .slice a3 M1 p3) (sr_set (p := ⟨N, 1, none⟩) (u := .int .i64 (bits .and .i64 G 3)) (sr_set (p := ⟨N, 0, none⟩) (u := .int .i64 (bits .and .i64 E 3)) hA2 hAo) hAo) hAo) hAo)
  have HF := Lib.hid (HB.out.trans (hfin.2.1.mono (by omega)))
  clear hfin hy hD2 hA2 cN1 cN2 cO1 cO2 y0 y1 y2 y3 f0 f1 f2 f3
  generalize (((wz.setCell ⟨N, 0, none⟩ (.int .i64 (bits .and .i64 E 3))).setCell ⟨N, 1, none⟩ (.int .i64 (bits .and .i64 G 3))).setCell ⟨N, 2, none⟩ (.slice a3 M1 p3)).setCell ⟨N, 3, none⟩ (.slice a4 M2 p4) = wf at *
  have s0 := scell HX.out 0 (v := .int .i64 (bits .and .i64 E 3)) rfl
  have s1 := scell HX.out 1 (v := .int .i64 (bits .and .i64 G 3)) rfl
  have s2 := scell HX.out 2 (v := .slice a3 M1 p3) rfl
  have s3 := scell HX.out 3 (v := .slice a4 M2 p4) rfl
  go_wp2_with fail
  (try simp only [Exit.inBlock, Exit.then])
  refine bodyPost_ret (v := .agg #[.int .i64 (bits .and .i64 E 3), .int .i64 (bits .and .i64 G 3), .slice a3 M1 p3, .slice a4 M2 p4]) (by simp [results, Try.results44, go_sem, s0, s1, s2, s3]) rfl ?_
  rw [HE.out.1, HE.out.2]
  exact ⟨_, _, rfl, HD2.out, HA2.out, HF.out, fun b e => Nat.lt_trans hlt (hDo b e), fun b e => Nat.lt_trans hlt (hAo b e)⟩
end Go.Proofs.Ytadejhlljdcocaa
/-
  Layer 30's law: awake; what is enough stays enough (pure).
-/

namespace Go.Proofs.Ytadejhlljdcocaa
open Go.RowKit
set_option linter.unusedVariables false
set_option linter.unusedSimpArgs false

theorem tds_nil (w : World) : TDs w (.slice none 0 0) [] := ⟨⟨none, 0, rfl, Nat.le_refl _, by decide, rfl, .inl rfl⟩, fun t ht => by simp at ht⟩
set_option maxHeartbeats 1600000 in
theorem awake30 (w : World) : Calls Try.prog 47 #[] w fun e w' => e = .returned (.bool true) ∧ Below w.heap.size w w' := by
  have c1 : ∀ w : World, Calls Try.prog 45 #[.agg #[.int .i64 0, .int .i64 0, .int .i64 0, .slice none 0 0, .slice none 0 0], .slice none 0 0] w fun e w' => ∃ a c, e = .returned (.tuple #[.slice a 0 c, .bool true]) ∧ Below w.heap.size w w' := fun w => by
    refine Calls.mono (spick 0 0 0 none none 0 0 0 0 [] (fun t ht => by simp at ht) w _ (tds_nil w)) ?_
    rintro e w' ⟨v', rfl, hs, hb⟩
    obtain ⟨a, c, rfl, -, -⟩ := hs.form
    exact ⟨a, c, by simp [pickW], hb⟩
  have c2 : ∀ w : World, Calls Try.prog 45 #[.agg #[.int .i64 1, .int .i64 0, .int .i64 0, .slice none 0 0, .slice none 0 0], .slice none 0 0] w fun e w' => ∃ a c, e = .returned (.tuple #[.slice a 0 c, .bool false]) ∧ Below w.heap.size w w' := fun w => by
    refine Calls.mono (spick 1 0 0 none none 0 0 0 0 [] (fun t ht => by simp at ht) w _ (tds_nil w)) ?_
    rintro e w' ⟨v', rfl, hs, hb⟩
    obtain ⟨a, c, rfl, -, -⟩ := hs.form
    exact ⟨a, c, by simp [pickW, newT, nfold, firstT], hb⟩
  go_enter Try.func47, Try.ntmps47
  go_wp2_with fail
  refine Calls.mono (c1 _) ?_
  rintro e w1 ⟨a1, p1, rfl, hb1⟩
  go_wp2_with fail
  refine Calls.mono (c2 _) ?_
  rintro e w2 ⟨a2, p2, rfl, hb2⟩
  have HB := Lib.hid (hb1.trans (hb2.mono hb1.size))
  clear hb1 hb2
  go_wp2_with fail
  go_ret
  exact ⟨rfl, HB.out⟩
/-- is it enough? -/
def okP (E : Int) (M : Nat) (ts : List TD) : Bool :=
  decide (E = 0) || ts.any (isAb E) || (ts.any (isIn E 2) && (decide (M = 0) || ts.any (isIn E 1)))
theorem firstT_some (E d : Int) (ts : List TD) : (firstT E d ts).isSome = ts.any (isIn E d) := by
  unfold firstT
  induction ts with
  | nil => rfl
  | cons t r ih =>
    rw [List.find?_cons, List.any_cons]
    cases isIn E d t
    · simpa using ih
    · rfl
theorem pickW_some (E : Int) (M : Nat) (ts : List TD) : (pickW E M ts).isSome = okP E M ts := by
  unfold pickW okP
  by_cases hE : E = 0
  · simp [hE]
  · rw [if_neg hE, decide_eq_false hE, ← newT_some, ← firstT_some, ← firstT_some]
    cases newT E ts with
    | some t => simp
    | none =>
      cases firstT E 2 ts with
      | none => simp
      | some t =>
        by_cases hM : M = 0
        · simp [hM]
        · cases firstT E 1 ts <;> simp [hM]
theorem okP_more {E : Int} {M : Nat} {ts us : List TD} (h : okP E M ts = true) (hs : ∀ t ∈ ts, t ∈ us) : okP E M us = true := by
  have any_more : ∀ p : TD → Bool, ts.any p = true → us.any p = true := fun p hp => by
    obtain ⟨t, ht, hpt⟩ := List.any_eq_true.1 hp
    exact List.any_eq_true.2 ⟨t, hs t ht, hpt⟩
  unfold okP at h ⊢
  simp only [Bool.or_eq_true, Bool.and_eq_true] at h ⊢
  rcases h with (h | h) | ⟨h1, h2 | h2⟩
  · exact .inl (.inl h)
  · exact .inl (.inr (any_more _ h))
  · exact .inr ⟨any_more _ h1, .inl h2⟩
  · exact .inr ⟨any_more _ h1, .inr (any_more _ h2)⟩
theorem okP_same {E : Int} {M : Nat} {ts us : List TD} (h : ∀ t, t ∈ ts ↔ t ∈ us) : okP E M ts = okP E M us := by
  cases h1 : okP E M ts <;> cases h2 : okP E M us <;> try rfl
  · rw [okP_more h2 (fun t ht => (h t).2 ht)] at h1; cases h1
  · rw [okP_more h1 (fun t ht => (h t).1 ht)] at h2; cases h2
theorem okP_rot (E : Int) (M : Nat) (ts : List TD) (t : TD) : okP E M (ts ++ [t]) = okP E M (t :: ts) := okP_same fun u => by simp [or_comm]
end Go.Proofs.Ytadejhlljdcocaa
