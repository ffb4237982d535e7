/-
  tarnlaw09.Near: items near those that came in: a function of them alone.
-/
import Derived.Test.YtoonlhjldkkanaaOfB
import Derived.Test.YtoonlhjldkkanaaNearA
import Derived.Test.YtoonlhjldkkanaaMask
namespace Go.Proofs.Ytoonlhjldkkanaa
open Go.RowKit
set_option linter.unusedVariables false
set_option linter.unusedSimpArgs false

abbrev heldSh : Sh := .two (.int .i64) (.two (.two (.int .u64) (.two .str .unit)) .unit)
section
variable {P : Program}
theorem step_app {t e : TypeId} {i : TypeInfo} {z : Value} {size bytes : Nat} (ht : P.underlying t = some (.slice e)) (hi : P.info? e = some i) (hz : i.zero = some z) (hsize : i.size = size) (hby : i.bytes = bytes)
    (hzs : z.cells.size = size) (hsz : 0 < size) {ops : Array Oper} {o : Oper} {a : Act} {K : Act → World → Prop} {Q : Exit → Act → World → Prop} {E : Prop} {w : World} (hgd : o.guard = none) (s x : Operand)
    (ho : o.op = .call { callee := .builtin .append, args := #[s, x], argTypes := #[t, t] }) (base : Nat) (v : Value) (n : Nat) (xs : List Value) (hs : a.eval s = v) (hown : w.ownsRow base e size v n xs)
    (u : Value) (m : Nat) (news : List Value) (hx : a.eval x = u) (hr : SR w u size m news)
    (h1 : ∀ y ∈ news, y.oneCell' = true) (h63 : n + m ≤ maxLen) (hbytes : (n + m) * bytes ≤ 140737488355328) (hbase : base ≤ w.heap.size)
    (h : ∀ v' w', w'.ownsRow base e size v' (n + m) (xs ++ news) → w.grownBy w' v.ownBlock → K (a.put o.dst v') w') :
    if Region.wanted o (yielded ops a.tmps) = true then Oper.wp P o a w K Q else E := by
  have hw : Region.wanted o (yielded ops a.tmps) = true := by simp [Region.wanted, hgd]
  rw [if_pos hw]
  obtain ⟨v', w', hrun, h2, h3⟩ := run_app (P := P) (ty := o.type) ht hi hz hsize hby hzs hsz w base v n xs hown u m news hr h1 h63 hbytes hbase
  unfold Oper.wp execOp
  simp only [ho, resolve, invoke, builtin, Sem.run_bind, Sem.run_pure, Result.andThen_ok, List.map_toArray, List.map_cons, List.map_nil, hs, hx, hrun]
  exact h v' w' h2 h3
end
/-- whatever came in -/
structure Raw (x : HI) : Prop where
  b : (Lit.int .i64 x.b).wf = true
  v : (Lit.int .u64 x.v).wf = true
  d : x.d.size ≤ maxLen
theorem fits_held1 {w : World} {ys : List Value} (h : Fits w heldSh ys) : ∃ x : HI, ys = [.int .i64 x.b, .int .u64 x.v, .string x.d] ∧ Raw x := by
  obtain ⟨x0, y0, rfl, ⟨tb, rfl, hb⟩, x1, y1, rfl, ⟨x3, y3, rfl, ⟨tv, rfl, hv⟩, x4, y4, rfl, ⟨td, rfl, hd⟩, rfl⟩, rfl⟩ := h
  exact ⟨⟨tb, tv, td⟩, rfl, hb, hv, hd⟩
theorem hCells_get : ∀ (l : List HI) (j : Nat) (u : Value), (hCells l)[j]? = some u → ∃ x, l[j / 3]? = some x ∧ [Value.int .i64 x.b, .int .u64 x.v, .string x.d][j % 3]? = some u
  | [], j, u, h => by simp [hCells] at h
  | x :: t, 0, u, h => ⟨x, rfl, h⟩
  | x :: t, 1, u, h => ⟨x, rfl, h⟩
  | x :: t, 2, u, h => ⟨x, rfl, h⟩
  | x :: t, j + 3, u, h => by
    obtain ⟨y, h1, h2⟩ := hCells_get t j u (by simpa [hCells] using h)
    exact ⟨y, by rw [show (j + 3) / 3 = j / 3 + 1 by omega]; simpa using h1, by rw [show (j + 3) % 3 = j % 3 by omega]; exact h2⟩
theorem fits_held {w : World} {a : Option Addr} {len cap : Nat} (h : Fits w (.slice heldSh) [.slice a len cap]) : ∃ rs : List HI, rs.length = len ∧ SR w (.slice a len cap) 3 len (hCells rs) ∧ ∀ x ∈ rs, Raw x := by
  obtain ⟨hlc, hcm, hel⟩ := h.slice
  rcases Nat.eq_zero_or_pos len with h0 | h0
  · subst h0
    exact ⟨[], rfl, ⟨a, cap, rfl, hlc, hcm, rfl, .inl rfl⟩, by simp⟩
  · obtain ⟨b, off, rfl, hb, hi⟩ := hel.resolve_left (by omega)
    have hx : ∀ i, i < len → ∃ x : HI, Raw x ∧ ∀ (k : Nat) u, [Value.int .i64 x.b, .int .u64 x.v, .string x.d][k]? = some u → w.cell? ⟨b, off + i * 3 + k, none⟩ = some u := fun i hlt => by
      obtain ⟨ys, _, hc, hf⟩ := hi i hlt
      obtain ⟨x, rfl, hr⟩ := fits_held1 hf
      exact ⟨x, hr, hc⟩
    have hrs : ∀ n, n ≤ len → ∃ rs : List HI, rs.length = n ∧ (∀ x ∈ rs, Raw x) ∧ ∀ i x, rs[i]? = some x → ∀ (k : Nat) u, [Value.int .i64 x.b, .int .u64 x.v, .string x.d][k]? = some u → w.cell? ⟨b, off + i * 3 + k, none⟩ = some u := by
      intro n
      induction n with
      | zero => exact fun _ => ⟨[], rfl, by simp, fun i x e => by simp at e⟩
      | succ n ih =>
        intro hn
        obtain ⟨rs, h1, h2, h3⟩ := ih (by omega)
        obtain ⟨x, hr, hc⟩ := hx n (by omega)
        refine ⟨rs ++ [x], by simp [h1], fun y hy => ?_, fun i y e => ?_⟩
        · rcases List.mem_append.1 hy with q | q
          · exact h2 y q
          · rw [List.mem_singleton.1 q]; exact hr
        · rcases Nat.lt_trichotomy i n with q | q | q
          · rw [List.getElem?_append_left (by omega)] at e
            exact h3 i y e
          · subst q
            rw [List.getElem?_append_right (by omega), h1, Nat.sub_self] at e
            simp only [List.getElem?_cons_zero, Option.some.injEq] at e
            subst e
            exact hc
          · have := (List.getElem?_eq_some_iff.1 e).1
            simp [h1] at this
            omega
    obtain ⟨rs, h1, h2, h3⟩ := hrs len (Nat.le_refl _)
    refine ⟨rs, h1, ⟨some ⟨b, off, none⟩, cap, rfl, hlc, hcm, (hCells_length rs).trans (by rw [h1]), .inr ⟨b, off, rfl, hb, fun j u hj => ?_⟩⟩, h2⟩
    obtain ⟨x, q1, q2⟩ := hCells_get rs j u hj
    have := h3 _ _ q1 _ _ q2
    rwa [Nat.add_assoc, show j / 3 * 3 + j % 3 = j by omega] at this
theorem keeps_app {N : Nat} {w0 w w' : World} {X : Prop} {e : TypeId} {size n : Nat} {v : Value} {xs : List Value} (h1 : N ≤ w.heap.size ∧ Below N w0 w ∧ X) (hg : w.grownBy w' v.ownBlock) (hown : w.ownsRow N e size v n xs) : N ≤ w'.heap.size ∧ Below N w0 w' ∧ ∀ b k, b < N → w'.cell? ⟨b, k, none⟩ = w0.cell? ⟨b, k, none⟩ :=
  have h := below_app h1.2.1 hg hown (Nat.le_refl _) h1.1
  ⟨Nat.le_trans h1.1 hg.size, h, fun b o hb => h.cell (p := ⟨b, o, none⟩) hb⟩
theorem mask63 (x : Int) : bits .and .i64 x 63 = x % 64 := mask_mod x 6 63 (by decide) (by decide)
/-- an item of a block near one that came in -/
def nearX (x : HI) : HI := ⟨bits .and .i64 x.b 63, x.v, nearD x.d (x.b / 64)⟩
def nearL (rs : List HI) : List HI := (rs.take 12).map nearX
theorem nearX_ok {x : HI} (h : Raw x) : Ok (nearX x) ∧ 0 ≤ (nearX x).b ∧ (nearX x).b < 64 := by
  have hm := mask63 x.b
  refine ⟨⟨wf_bits .and .i64 x.b 63, h.v, nearD_size x.d (x.b / 64)⟩, ?_, ?_⟩
  · show 0 ≤ bits .and .i64 x.b 63
    omega
  · show bits .and .i64 x.b 63 < 64
    omega
theorem near_lit {x : HI} {B : Int} {D : ByteArray} (hB : bits .and .i64 x.b 63 = B) (hD : nearD x.d (x.b / 64) = D) (w : World) :
    SR (w.alloc (.cells #[.int .i64 B, .int .u64 x.v, .string D] 58)) (.slice (some ⟨w.heap.size, 0, none⟩) 1 1) 3 1 (hCells [nearX x]) := by
  subst hB hD
  exact good_lit (nearX x) w
theorem nearL_ok {rs : List HI} (h : ∀ x ∈ rs, Raw x) : ∀ x ∈ nearL rs, Ok x := fun x hx => by
  obtain ⟨y, hy, rfl⟩ := List.mem_map.1 hx
  exact (nearX_ok (h y (List.mem_of_mem_take hy))).1
theorem nearL_len (rs : List HI) : (nearL rs).length ≤ 12 := by simp [nearL]; omega
theorem nearL_next {rs : List HI} {j : Nat} {x : HI} (hx : rs[j]? = some x) (hj : j < 12) : nearL (rs.take (j + 1)) = nearL (rs.take j) ++ [nearX x] := by
  unfold nearL
  rw [List.take_take, List.take_take, Nat.min_eq_right (by omega), Nat.min_eq_right (by omega), take_next hx, List.map_append]
  rfl
set_option maxHeartbeats 1600000 in
set_option maxRecDepth 100000 in
theorem near09 (rs : List HI) (hr : ∀ x ∈ rs, Raw x) (w : World) (v : Value) (hv : SR w v 3 rs.length (hCells rs)) :
    Calls Try.prog 35 #[v] w fun e w' => ∃ v', e = .returned v' ∧ w'.ownsRow w.heap.size 58 3 v' (nearL rs).length (hCells (nearL rs)) ∧ Below w.heap.size w w' := by
  obtain ⟨i0, hi, hz0, hz1, hz2⟩ := info_parts info_held
  obtain ⟨a, cap, rfl, hlc, hcm⟩ := hv.form
  unfold maxLen at hcm
  have HV := Lib.hid hv
  have HR := Lib.hid hr
  have hitem : ∀ (x : Int) (D : ByteArray), itemA x D = #[.int .u64 x, .string D] := fun _ _ => rfl
  clear hv hr
  go_enter Try.func35, Try.ntmps35
  go_wp2_with fail
  go_loopw [2, 3] (fun o i wr => ∃ j : Nat, j ≤ rs.length ∧ j ≤ 12 ∧ i = .int .i64 j ∧ Hid (wr.ownsRow w.heap.size 58 3 o (nearL (rs.take j)).length (hCells (nearL (rs.take j))) ∧ Below w.heap.size w wr)) (fun _ i _ => 12 - (intOf i).toNat)
  case atStart => exact ⟨0, Nat.zero_le _, Nat.zero_le _, rfl, Lib.hid ⟨World.ownsRow_nil _ _ _ _, Below.refl _ _⟩⟩
  case round =>
    obtain ⟨j, hj, hj12, rfl, HL⟩ := hrel
    by_cases hin : j < rs.length ∧ j < 12
    · obtain ⟨h1, h2⟩ := hin
      obtain ⟨x, hx⟩ : ∃ x, rs[j]? = some x := ⟨_, List.getElem?_eq_getElem h1⟩
      obtain ⟨b, off, rfl, hbl, c0, c1, c2⟩ := sr_held HV.out j x hx
      have HX := Lib.hid hx
      have hxr := HR.out x (List.mem_of_getElem? hx)
      have hxb := wf_le hxr.b
      have cn := fun w => near_det x.v x.d (x.b / 64) hxr.d w
      simp only [hitem] at cn
      have hlj : (j : Int) < rs.length := by omega
      have h0j : (0 : Int) ≤ j := by omega
      have hol := nearL_len (rs.take j)
      have hwr := HL.out.2.size
      obtain ⟨N, hN⟩ : ∃ N, w.heap.size = N := ⟨_, rfl⟩
      rw [hN] at hbl hwr
      have HLN := HL.out
      rw [hN] at HLN
      have HN := Lib.hid hN
      have HLN' := Lib.hid HLN
      obtain ⟨L, hL⟩ : ∃ L, nearL (rs.take j) = L := ⟨_, rfl⟩
      rw [hL] at HLN' hol
      have HLL := Lib.hid hL
      obtain ⟨B, hB⟩ : ∃ B, bits .and .i64 x.b 63 = B := ⟨_, rfl⟩
      obtain ⟨D, hD⟩ : ∃ D, nearD x.d (x.b / 64) = D := ⟨_, rfl⟩
      have HBB := Lib.hid hB
      have HDD := Lib.hid hD
      rw [hD] at cn
      have ks : N ≤ wr.drew.heap.size ∧ Below N w wr.drew ∧ ∀ b o, b < N → wr.drew.cell? ⟨b, o, none⟩ = w.cell? ⟨b, o, none⟩ := ⟨hwr, below_drew' HLN.2, fun b o hb => (below_drew' HLN.2).cell (p := ⟨b, o, none⟩) hb⟩
      have c3 : ∀ w', N ≤ w'.heap.size → Calls Try.prog 15 #[.agg #[.int .u64 x.v, .string x.d], .int .i64 (x.b / 64)] w' fun e w'' => e = .returned (.agg #[.int .u64 x.v, .string D]) ∧ Stays N w' w'' ∧ Below w'.heap.size w' w'' := fun w' h => (cn w').mono fun e w'' ⟨he, hw⟩ => ⟨he, stays_of h hw, hw⟩
      clear hx hxr cn HLN hN hL hD
      go_upto_region 4 with fail
      go_region_held3 (fun w' => N ≤ w'.heap.size ∧ Below N w w' ∧ ∀ b o, b < N → w'.cell? ⟨b, o, none⟩ = w.cell? ⟨b, o, none⟩) (first | exact ks | exact keeps_next (by assumption) (by assumption) | exact keeps_alloc (by assumption) | exact keeps_app (by assumption) (by assumption) (by assumption)) (first | (go_at_call 15; refine Calls.mono (c3 _ (And.left (by assumption))) ?_; rintro e wz ⟨rfl, hz, hzz⟩) | (have hoA := (owns_below (w := wr.drew) HLN'.out.1 hzz).alloc (.cells #[.int .i64 B, .int .u64 x.v, .string D] 58); refine step_app Try.underlying38 hi hz0 hz1 hz2 rfl (by decide) rfl (.tmp 14) (.tmp 34) rfl N _ L.length (hCells L) rfl hoA _ 1 (hCells [nearX x]) rfl (near_lit HBB.out HDD.out _) (hCells_one _) (by unfold maxLen; omega) (by omega) (And.left (by assumption)) ?_; intro v' w9 hown hgr))
      all_goals
        rename_i hfin
        have HO9 := Lib.hid (owns_app hown)
        have HB9 := Lib.hid hfin.2.1
        clear hown hgr hoA hzz hz hfin ks c0 c1 c2 c3
        go_wp2_with fail
        go_roundw
        case rel =>
          refine ⟨j + 1, by omega, by omega, by go_num, Lib.hid ?_⟩
          rw [nearL_next HX.out h2, HLL.out, HN.out]
          exact ⟨HO9.out, HB9.out⟩
        case measure => simp [intOf]; omega
    · have hfin : j = rs.length ∨ j = 12 := by omega
      have hq : nearL (rs.take j) = nearL rs := by
        rcases hfin with h | h
        · rw [h, List.take_length]
        · rw [h]; unfold nearL; rw [List.take_take, Nat.min_self]
      have HQ := HL.out
      rw [hq] at HQ
      have HQ' := Lib.hid HQ
      clear HQ hq hfin
      go_wp2_with fail
      all_goals
        go_ret
        exact ⟨_, rfl, HQ'.out.1, HQ'.out.2⟩
end Go.Proofs.Ytoonlhjldkkanaa
