/-
  ArcRoom's walk.
-/
import Derived.Test.YtadejhlljdcocaaArcT
import Derived.Test.YtadejhlljdcocaaFits
import Derived.Test.YtadejhlljdcocaaMask
namespace Go.Proofs.Ytadejhlljdcocaa
open Go.RowKit
set_option linter.unusedVariables false
set_option linter.unusedSimpArgs false

theorem alistsN (w : World) : Calls Try.prog 35 #[.pointer none] w fun e w' => e = .returned (.agg nilA) ∧ Below w.heap.size w w' := by
  have hb : Below w.heap.size w ((w.alloc (.cells nilA 62)).alloc (.cells nilA 62)) := ((Below.refl _ _).alloc (Nat.le_refl _) _).alloc (by simp) _
  go_enter Try.func35, Try.ntmps35
  go_wp2_with fail
  unfold nilA at hb ⊢
  have k0 : ∀ i, i < 4 → ((w.alloc (.cells #[.slice none 0 0, .slice none 0 0, .slice none 0 0, .slice none 0 0] 62)).alloc (.cells #[.slice none 0 0, .slice none 0 0, .slice none 0 0, .slice none 0 0] 62)).cell? ⟨w.heap.size, i, none⟩ = some (.slice none 0 0) := by
    intro i hi
    have h := heap_alloc_old (heap_alloc_self w (.cells #[.slice none 0 0, .slice none 0 0, .slice none 0 0, .slice none 0 0] 62)) (.cells #[.slice none 0 0, .slice none 0 0, .slice none 0 0, .slice none 0 0] 62)
    match i, hi with
    | 0, _ => simp [World.cell?, h]
    | 1, _ => simp [World.cell?, h]
    | 2, _ => simp [World.cell?, h]
    | 3, _ => simp [World.cell?, h]
  generalize ((w.alloc (.cells #[.slice none 0 0, .slice none 0 0, .slice none 0 0, .slice none 0 0] 62)).alloc (.cells #[.slice none 0 0, .slice none 0 0, .slice none 0 0, .slice none 0 0] 62)) = W6 at *
  refine bodyPost_ret (v := .agg #[.slice none 0 0, .slice none 0 0, .slice none 0 0, .slice none 0 0]) (by simp [results, Try.results35, go_sem, k0 0 (by decide), k0 1 (by decide), k0 2 (by decide), k0 3 (by decide)]) rfl ?_
  exact ⟨rfl, hb⟩
section
variable {P : Program}
theorem stepU {t e : TypeId} {i : TypeInfo} {z : Value} {size bytes : Nat} (ht : P.underlying t = some (.slice e)) (hi : P.info? e = some i) (hz : i.zero = some z) (hsize : i.size = size) (hby : i.bytes = bytes)
    (hzs : z.cells.size = size) (hsz : 0 < size) {ops : Array Oper} {o : Oper} {a : Act} {K : Act → World → Prop} {Q : Exit → Act → World → Prop} {E : Prop} {w : World} (hgd : o.guard = none) (s x : Operand)
    (ho : o.op = .call { callee := .builtin .append, args := #[s, x], argTypes := #[t, t] }) (base : Nat) (v : Value) (n : Nat) (xs : List Value) (hs : a.eval s = v) (hown : w.ownsRow base e size v n xs)
    (u : Value) (m : Nat) (news : List Value) (hx : a.eval x = u) (hr : SR w u size m news)
    (h1 : ∀ y ∈ news, y.oneCell' = true) (h63 : n + m ≤ maxLen) (hbytes : (n + m) * bytes ≤ 140737488355328) (hbase : base ≤ w.heap.size)
    (h : ∀ v' w', w'.ownsRow base e size v' (n + m) (xs ++ news) → w.grownBy w' v.ownBlock → K (a.put o.dst v') w') :
    if Region.wanted o (yielded ops a.tmps) = true then Oper.wp P o a w K Q else E := by
  have hw : Region.wanted o (yielded ops a.tmps) = true := by simp [Region.wanted, hgd]
  rw [if_pos hw]
  obtain ⟨v', w', hrun, h2, h3⟩ := run_app (P := P) (ty := o.type) ht hi hz hsize hby hzs hsz w base v n xs hown u m news hr h1 h63 hbytes hbase
  unfold Oper.wp execOp
  simp only [ho, resolve, invoke, builtin, Sem.run_bind, Sem.run_pure, Result.andThen_ok, List.map_toArray, List.map_cons, List.map_nil, hs, hx, hrun]
  exact h v' w' h2 h3
end
theorem keepsU {N : Nat} {w w' w'' : World} {v : Value} {n size : Nat} {xs : List Value} {e : TypeId} {X : Prop} (h1 : N ≤ w'.heap.size ∧ Below N w w' ∧ X) (ho : w'.ownsRow N e size v n xs) (hg : w'.grownBy w'' v.ownBlock) : N ≤ w''.heap.size ∧ Below N w w'' ∧ ∀ b o, b < N → w''.cell? ⟨b, o, none⟩ = w.cell? ⟨b, o, none⟩ :=
  keeps_next h1 ⟨Nat.le_trans h1.1 hg.size, (Below.refl N w').grown hg h1.1 (fun q hq => (ho.lt q hq).1)⟩
/-- what stands behind the act of a round -/
def MidRel (N a : Nat) (R X : Int) (tb : Bool) (w0 wx : World) : Prop :=
  ∃ (V : Nat → Value) (W : Int) (L : Nat → List Int), ArcAt wx N a R W V L ∧ AI R W L ∧ Below w0.heap.size w0 wx ∧ ((L 0).contains X || (L 1).contains X) = (!tb && decide (0 < R))
theorem nodup_of {R W : Int} {L : Nat → List Int} (h : AI R W L) : (L 0 ++ L 1 ++ L 2 ++ L 3).Nodup := by
  rw [List.nodup_iff_count]
  intro y
  have := h.one y
  unfold cnt at this
  simp only [List.count_append]
  omega
theorem nodup_ne {T : List Int} (h : T.Nodup) {p q : Nat} (hq : q < p) (hp : p < T.length) : T.getD p 0 ≠ T.getD q 0 := by
  have hq2 : q < T.length := by omega
  simp only [List.getD_eq_getElem?_getD, List.getElem?_eq_getElem hp, List.getElem?_eq_getElem hq2, Option.getD_some]
  intro e
  have h2 := List.pairwise_iff_getElem.1 h q p hq2 hp hq
  exact h2 e.symm
set_option maxHeartbeats 3200000 in
set_option maxRecDepth 400000 in
theorem arcroom_law (room : Int) (a : Option Addr) (len cap : Nat) (w : World) (_hr : (Lit.int .i64 room).wf = true) (hf : Fits w (.slice (.two (.int .i64) (.two .bool .unit))) [.slice a len cap]) :
    Calls Try.prog 6 #[.int .i64 room, .slice a len cap] w fun v w' => v = .returned (.bool true) ∧ Below w.heap.size w w' := by
  obtain ⟨a', len', cap', he, hlc, hcm, hel⟩ := hf
  injection he with he1 he2
  injection he1 with e1 e2 e3
  subst e1 e2 e3
  unfold maxLen at hcm
  obtain ⟨i0, hi, hz0, hz1, hz2⟩ := info_parts ainfo
  have HEL := Lib.hid hel
  have c0 := fun w => anewA_any room w
  have hA0 := arc_new w (clampR room)
  have hb0 := (Below.refl w.heap.size w).alloc (Nat.le_refl _) (.cells (arcC (clampR room) 0 (fun _ => .slice none 0 0)) 147)
  obtain ⟨hR0, hR64⟩ := clampR_le room
  have hclamp : min (max room 0) 64 = clampR room := rfl
  generalize clampR room = R at *
  have hI0 : AI R 0 (fun _ => []) := ⟨by omega, hR0, by simp; omega, by simp; omega, by simp; omega, fun y => by simp [cnt]⟩
  clear hel he2
  go_enter Try.func6, Try.ntmps6
  go_wp2_with fail
  refine Calls.mono (c0 _) ?_
  rintro e w1 ⟨rfl, rfl⟩
  generalize w.alloc (.cells (arcC R 0 (fun _ => .slice none 0 0)) 147) = w1 at *
  have HS := Lib.hid (And.intro hA0 (And.intro hI0 hb0))
  clear c0 hA0 hI0 hb0
  go_wp2_with fail
  have HCL := Lib.hid hclamp
  clear hclamp
  go_loopw [7] (fun i wr => ∃ (j : Nat) (V : Nat → Value) (W : Int) (L : Nat → List Int), j ≤ len ∧ j ≤ 120 ∧ i = .int .i64 j ∧ Hid (ArcAt wr w.heap.size w.heap.size R W V L ∧ AI R W L ∧ Below w.heap.size w wr)) (fun i _ => 120 - (intOf i).toNat)
  case atStart => exact ⟨0, _, _, _, by omega, by omega, rfl, HS⟩
  case round =>
    obtain ⟨j, V, W, L, hj1, hj2, rfl, HR⟩ := hrel
    clear HS
    by_cases hin : j < len ∧ j < 120
    · obtain ⟨hi1, hi2⟩ := hin
      obtain ⟨b, off, rfl, hbl, hel⟩ := HEL.out.resolve_left (by omega)
      obtain ⟨ys, hyl, hyc, tx, ty, rfl, ⟨tn, rfl, -⟩, tz, tu, rfl, ⟨tb, rfl⟩, rfl⟩ := hel j hi1
      have c0 : wr.cell? ⟨b, off + j * 2, none⟩ = some (.int .i64 tn) := by
        have := hyc 0 _ rfl
        rw [HR.out.2.2.cell hbl]
        simpa [Sh.size] using this
      have c1 : wr.cell? ⟨b, off + j * 2 + 1, none⟩ = some (.bool tb) := by
        have := hyc 1 _ rfl
        rw [HR.out.2.2.cell hbl]
        simpa [Sh.size] using this
      have HY := Lib.hid (hyc 1 _ rfl)
      clear hyc hyl hel
      obtain ⟨X, hX⟩ : ∃ X, X = bits .and .i64 tn 127 := ⟨_, rfl⟩
      have HX := Lib.hid hX
      clear hX
      go_upto_region 7 with fail
      rw [← HX.out]
      go_upto_if 41 with fail
      go_cut [] (fun wx => MidRel w.heap.size w.heap.size R X tb w wx)
      case first =>
        cases tb
        · have cu := ause_all X wr _ _ R W V L HR.out.1 HR.out.2.1 hR64
          clear c0 c1
          go_wp2_with fail
          refine Calls.mono cu ?_
          rintro e w2 ⟨o, W', V', L', rfl, hA, hI, hK, hc⟩
          unfold outV
          have HM := Lib.hid (show MidRel w.heap.size w.heap.size R X false w w2 from ⟨V', W', L', hA, hI, HR.out.2.2.trans hK.below, by rw [hc]; simp⟩)
          clear hA hI hK hc cu
          go_wp2_with fail
          go_meet
          exact HM.out
        · have cd := adropA X wr _ _ R W V L HR.out.1 (fun i hi => Nat.le_trans (HR.out.2.1.len hR64 i hi) (by decide))
          have hk := drop_keeps X HR.out.2.1
          have HKK := Lib.hid hk
          clear c0 c1 hk
          obtain ⟨q, hq⟩ : ∃ q, ((L 0).contains X || (L 1).contains X) = q := ⟨_, rfl⟩
          rw [hq] at cd
          clear hq
          go_wp2_with fail
          refine Calls.mono cd ?_
          rintro e w2 ⟨rfl, V', hA, hK⟩
          have HM := Lib.hid (show MidRel w.heap.size w.heap.size R X true w w2 from ⟨V', W, _, hA, HKK.out.1, HR.out.2.2.trans hK.below, by rw [HKK.out.2]; simp⟩)
          clear hA hK cd HKK
          go_wp2_with fail
          go_meet
          exact HM.out
      case rest =>
        obtain ⟨V1, W1, L1, hA, hI, hB, hc⟩ := hcut
        obtain ⟨W0, hW0⟩ : ∃ W0, W0 = wc := ⟨_, rfl⟩
        subst hW0
        clear HR c0 c1
        have c1 : W0.cell? ⟨b, off + j * 2 + 1, none⟩ = some (.bool tb) := by
          have := HY.out
          rw [hB.cell hbl]
          simpa [Sh.size] using this
        have hl := hI.len hR64
        have cl := fun q => flipA (alen (W0.drewN q) _ _ R W1 V1 L1 (hA.drewN q) (by have := hI.a01; omega) (by have := hI.a01; omega))
        have cw := fun q => flipA (awant (W0.drewN q) _ _ R W1 V1 L1 (hA.drewN q))
        have ch := fun q => flipA (ahas X (W0.drewN q) _ _ R W1 V1 L1 (hA.drewN q))
        rw [hc] at ch
        have hm1 := hI.a01
        have hw0 := hI.w0
        have hwR := hI.wR
        obtain ⟨m, hm⟩ : ∃ m : Int, ((L1 0).length : Int) + (L1 1).length = m := ⟨_, rfl⟩
        rw [hm] at cl hm1
        have t1 : decide (R < m) = false := decide_eq_false (by omega)
        have t2 : decide (W1 < 0) = false := decide_eq_false (by omega)
        have t3 : decide (R < W1) = false := decide_eq_false (by omega)
        obtain ⟨r, hr⟩ : ∃ r, decide (0 < R) = r := ⟨_, rfl⟩
        rw [hr] at ch
        have HA := Lib.hid hA
        have HI := Lib.hid hI
        have HB := Lib.hid hB
        have HC := Lib.hid hc
        have HL := Lib.hid hl
        clear hA hI hB hc hl hm
        go_upto_region 10 with fail
        go_cut [78] (fun s wx => s = .bool false ∧ ∃ q, wx = W0.drewN q)
        case first =>
          cases tb <;> cases r
          all_goals
            go_quiet ((first | (go_at_call 32; exact Calls.quiet_of_same (cl _)) | (go_at_call 33; exact Calls.quiet_of_same (cw _)) | (go_at_call 34; exact Calls.quiet_of_same (ch _))))
            go_wp2_with fail
            go_meet
            exact ⟨rfl, _, rfl⟩
        case rest =>
          obtain ⟨rfl, q, hq⟩ := hcut
          have hA := HA.out.drewN q
          have hB := below_drewN' HB.out q
          rw [← hq] at hA hB
          have HA := Lib.hid hA
          have HB := Lib.hid hB
          obtain ⟨W2, hW2⟩ : ∃ W2, W2 = wc := ⟨_, rfl⟩
          subst hW2
          clear cl cw ch hm1 t1 t2 t3 hr c1 hA hB hq
          have ca := alists W2 _ _ R W1 V1 L1 HA.out (fun i hi => Nat.le_trans (HL.out i hi) (by decide))
          have s0 := HI.out.tot
          have HT := Lib.hid (nodup_of HI.out)
          obtain ⟨l0, g0⟩ : ∃ l, L1 0 = l := ⟨_, rfl⟩
          obtain ⟨l1, g1⟩ : ∃ l, L1 1 = l := ⟨_, rfl⟩
          obtain ⟨l2, g2⟩ : ∃ l, L1 2 = l := ⟨_, rfl⟩
          obtain ⟨l3, g3⟩ : ∃ l, L1 3 = l := ⟨_, rfl⟩
          rw [g0, g1, g2, g3] at s0 HT
          have HG := Lib.hid (And.intro g0 (And.intro g1 (And.intro g2 g3)))
          clear g0 g1 g2 g3
          go_wp2_with fail
          refine Calls.mono ca ?_
          rintro e w2 ⟨v0, v1, v2, v3, rfl, r0, r1, r2, r3, hb2⟩
          rw [HG.out.1] at r0
          rw [HG.out.2.1] at r1
          rw [HG.out.2.2.1] at r2
          rw [HG.out.2.2.2] at r3
          obtain ⟨n0, k0⟩ : ∃ n, l0.length = n := ⟨_, rfl⟩
          obtain ⟨n1, k1⟩ : ∃ n, l1.length = n := ⟨_, rfl⟩
          obtain ⟨n2, k2⟩ : ∃ n, l2.length = n := ⟨_, rfl⟩
          obtain ⟨n3, k3⟩ : ∃ n, l3.length = n := ⟨_, rfl⟩
          rw [k0] at r0 s0
          rw [k1] at r1 s0
          rw [k2] at r2 s0
          rw [k3] at r3 s0
          have HK := Lib.hid (And.intro k0 (And.intro k1 (And.intro k2 k3)))
          obtain ⟨a0, q0, rfl, -, -⟩ := r0.form
          obtain ⟨a1, q1, rfl, -, -⟩ := r1.form
          obtain ⟨a2, q2, rfl, -, -⟩ := r2.form
          obtain ⟨a3, q3, rfl, -, -⟩ := r3.form
          have hb3 := (Below.refl w2.heap.size w2).alloc (Nat.le_refl _) (.cells #[.slice a0 n0 q0, .slice a1 n1 q1, .slice a2 n2 q2, .slice a3 n3 q3] 62)
          have hx := heap_alloc_self w2 (.cells #[.slice a0 n0 q0, .slice a1 n1 q1, .slice a2 n2 q2, .slice a3 n3 q3] 62)
          have HR0 := Lib.hid (r0.below hb3)
          have HR1 := Lib.hid (r1.below hb3)
          have HR2 := Lib.hid (r2.below hb3)
          have HR3 := Lib.hid (r3.below hb3)
          have HB3 := Lib.hid (hb2.trans (hb3.mono hb2.size))
          clear k0 k1 k2 k3 r0 r1 r2 r3 hb2 ca
          go_upto_region 13 with fail
          generalize w2.alloc (.cells #[.slice a0 n0 q0, .slice a1 n1 q1, .slice a2 n2 q2, .slice a3 n3 q3] 62) = W3 at *
          have d0 : W3.cell? ⟨w2.heap.size, 0, none⟩ = some (.slice a0 n0 q0) := by simp [World.cell?, hx]
          have d1 : W3.cell? ⟨w2.heap.size, 1, none⟩ = some (.slice a1 n1 q1) := by simp [World.cell?, hx]
          have d2 : W3.cell? ⟨w2.heap.size, 2, none⟩ = some (.slice a2 n2 q2) := by simp [World.cell?, hx]
          have d3 : W3.cell? ⟨w2.heap.size, 3, none⟩ = some (.slice a3 n3 q3) := by simp [World.cell?, hx]
          have hlt : w2.heap.size < W3.heap.size := lt_heap hx
          obtain ⟨N, hN⟩ : ∃ N, W3.heap.size = N := ⟨_, rfl⟩
          rw [hN] at hlt
          have HN := Lib.hid hN
          clear hx hN hb3
          go_region_held3 (fun w' => N ≤ w'.heap.size ∧ Below N W3 w' ∧ ∀ b o, b < N → w'.cell? ⟨b, o, none⟩ = W3.cell? ⟨b, o, none⟩) (first | assumption | exact keeps_start HN.out | exact keeps_alloc (by assumption) | exact keepsU (by assumption) (by assumption) (by assumption)) (first | (have hown := World.ownsRow_lit (base := N) (e := 3) (size := 1) W3.drew #[] 0 (keeps_start HN.out).1 (by decide) rfl; refine stepU Try.underlying29 hi hz0 hz1 hz2 rfl (by decide) rfl (.tmp 81) (.tmp 83) rfl N _ _ _ rfl hown _ n0 (nCells l0) rfl (sr_keeps HR0.out HN.out (by assumption)) (nCells_one _) (by unfold maxLen; omega) (by omega) (And.left (by assumption)) ?_; intro v' w9 hown hgr) | (refine stepU Try.underlying29 hi hz0 hz1 hz2 rfl (by decide) rfl (.tmp 84) (.tmp 86) rfl N _ _ _ rfl hown _ n1 (nCells l1) rfl (sr_keeps HR1.out HN.out (by assumption)) (nCells_one _) (by unfold maxLen; omega) (by omega) (And.left (by assumption)) ?_; intro v' w9 hown hgr) | (refine stepU Try.underlying29 hi hz0 hz1 hz2 rfl (by decide) rfl (.tmp 87) (.tmp 89) rfl N _ _ _ rfl hown _ n2 (nCells l2) rfl (sr_keeps HR2.out HN.out (by assumption)) (nCells_one _) (by unfold maxLen; omega) (by omega) (And.left (by assumption)) ?_; intro v' w9 hown hgr) | (refine stepU Try.underlying29 hi hz0 hz1 hz2 rfl (by decide) rfl (.tmp 90) (.tmp 92) rfl N _ _ _ rfl hown _ n3 (nCells l3) rfl (sr_keeps HR3.out HN.out (by assumption)) (nCells_one _) (by unfold maxLen; omega) (by omega) (And.left (by assumption)) ?_; intro v' w9 hown hgr))
          rename_i hfin
          have hall : SR w9 v' 1 (0 + n0 + n1 + n2 + n3) (nCells (l0 ++ l1 ++ l2 ++ l3)) := by
            have h := SR.owns hown
            have e : (#[] : Array Value).toList ++ nCells l0 ++ nCells l1 ++ nCells l2 ++ nCells l3 = nCells (l0 ++ l1 ++ l2 ++ l3) := by simp [nCells]
            rw [e] at h
            exact h
          have HB9 := Lib.hid (HB3.out.trans (hfin.2.1.mono (by have := HB3.out.size; have := HN.out; omega)))
          have HA9 := Lib.hid (HA.out.below HB9.out)
          have hT : (l0 ++ l1 ++ l2 ++ l3).length = 0 + n0 + n1 + n2 + n3 := by
            simp only [List.length_append, HK.out.1, HK.out.2.1, HK.out.2.2.1, HK.out.2.2.2]
            omega
          obtain ⟨T, hTe⟩ : ∃ T, l0 ++ l1 ++ l2 ++ l3 = T := ⟨_, rfl⟩
          rw [hTe] at hall hT HT
          obtain ⟨n, hn⟩ : ∃ n, 0 + n0 + n1 + n2 + n3 = n := ⟨_, rfl⟩
          rw [hn] at hall hT
          have hn2 : (n : Int) ≤ 2 * R := by omega
          obtain ⟨av, cv, rfl, hcv, hcm2⟩ := hall.form
          unfold maxLen at hcm2
          have HALL := Lib.hid hall
          have HTL := Lib.hid hT
          clear hall hT hTe hn hfin hown hgr d0 d1 d2 d3 s0 hlt
          go_wp2_with fail
          go_loopw [11] (fun p wx => ∃ x t : Nat, x ≤ n ∧ p = .int .i64 x ∧ wx = w9.drewN t) (fun p _ => n - (intOf p).toNat)
          case atStart => exact ⟨0, 0, Nat.zero_le _, rfl, rfl⟩
          case round =>
            obtain ⟨x, t, hx, rfl, rfl⟩ := hrel
            by_cases hxn : x < n
            · go_wp2_with fail
              go_loopw [12] (fun q wx => ∃ y t : Nat, y ≤ x ∧ q = .int .i64 y ∧ wx = w9.drewN t) (fun q _ => x - (intOf q).toNat)
              case atStart => exact ⟨0, t, Nat.zero_le _, rfl, rfl⟩
              case round =>
                obtain ⟨y, t2, hy, rfl, rfl⟩ := hrel
                by_cases hyx : y < x
                · obtain ⟨b1, o1, rfl, -, hcell⟩ := HALL.out.int (by omega)
                  have hc1 := hcell x hxn
                  have hc2 := hcell y (by omega)
                  have hne := nodup_ne HT.out hyx (by have := HTL.out; omega)
                  obtain ⟨X1, hX1⟩ : ∃ z, z = T.getD x 0 := ⟨_, rfl⟩
                  obtain ⟨X2, hX2⟩ : ∃ z, z = T.getD y 0 := ⟨_, rfl⟩
                  rw [← hX1] at hc1 hne
                  rw [← hX2] at hc2 hne
                  have hne2 : (X1 == X2) = false := by simpa using hne
                  clear hcell hX1 hX2 hne
                  go_wp2_with fail
                  go_quiet (fail)
                  go_wp2_with fail
                  go_roundw
                  case rel => exact ⟨y + 1, _, by omega, by simp, rfl⟩
                  case measure => simp [intOf]; omega
                · go_wp2_with fail
                  go_roundw
                  case rel => exact ⟨x + 1, t2, by omega, by simp, rfl⟩
                  case measure => simp [intOf]; omega
            · go_wp2_with fail
              go_roundw
              case rel => exact ⟨j + 1, V1, W1, L1, by omega, by omega, by simp, Lib.hid ⟨HA9.out.drewN t, HI.out, below_drewN' (HB.out.trans (HB9.out.mono HB.out.size)) t⟩⟩
              case measure => simp [intOf]; omega
    · have cN := fun w => auseN 1 w
      have ca := fun w => awake22 w
      have cL := fun w => alistsN w
      have HB := Lib.hid HR.out.2.2
      clear HR HEL
      go_wp2_with fail
      all_goals
        refine Calls.mono (cN _) ?_
        rintro e w2 ⟨rfl, rfl⟩
        go_wp2_with fail
        refine Calls.mono (ca _) ?_
        rintro e w3 ⟨rfl, h3⟩
        have HB3 := Lib.hid (HB.out.trans (h3.mono HB.out.size))
        clear h3
        go_wp2_with fail
        refine Calls.mono (ahasN2 1 _) ?_
        rintro e w4 ⟨rfl, rfl⟩
        go_wp2_with fail
        refine Calls.mono (alenN2 _) ?_
        rintro e w4 ⟨rfl, rfl⟩
        go_wp2_with fail
        refine Calls.mono (awantN2 _) ?_
        rintro e w4 ⟨rfl, rfl⟩
        go_wp2_with fail
        refine Calls.mono (adropN2 1 _) ?_
        rintro e w4 ⟨rfl, rfl⟩
        go_wp2_with fail
        refine Calls.mono (cL _) ?_
        rintro e w4 ⟨rfl, h4⟩
        have HB4 := Lib.hid (HB3.out.trans (h4.mono HB3.out.size))
        unfold nilA
        clear h4
        have x0 : ∀ w : World, (Instr.index 62 (.agg #[.slice none 0 0, .slice none 0 0, .slice none 0 0, .slice none 0 0]) (.int .i64 0)).run Try.prog w = .ok (.slice none 0 0) w := fun _ => by kernel_rfl
        go_wp2_with fail
        go_ret
        exact ⟨rfl, HB4.out⟩
end Go.Proofs.Ytadejhlljdcocaa
