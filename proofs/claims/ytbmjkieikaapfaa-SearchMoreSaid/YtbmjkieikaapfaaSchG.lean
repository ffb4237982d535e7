/-
  SearchMore's walk.
-/
import Derived.Test.YtbmjkieikaapfaaSchF
namespace Go.Proofs.Ytbmjkieikaapfaa
open Go.RowKit Go.WideMaps
set_option linter.unusedVariables false
set_option linter.unusedSimpArgs false

section
variable {P : Program}
theorem step_appG {t e : TypeId} {i : TypeInfo} {z : Value} {size bytes : Nat} (ht : P.underlying t = some (.slice e)) (hi : P.info? e = some i) (hz : i.zero = some z) (hsize : i.size = size) (hby : i.bytes = bytes)
    (hzs : z.cells.size = size) (hsz : 0 < size) {ops : Array Oper} {o : Oper} {a : Act} {K : Act → World → Prop} {Q : Exit → Act → World → Prop} {E : Prop} {w : World} (hw : Region.wanted o (yielded ops a.tmps) = true) (s x : Operand)
    (ho : o.op = .call { callee := .builtin .append, args := #[s, x], argTypes := #[t, t] }) (base : Nat) (v : Value) (n : Nat) (xs : List Value) (hs : a.eval s = v) (hown : w.ownsRow base e size v n xs)
    (u : Value) (m : Nat) (news : List Value) (hx : a.eval x = u) (hr : SR w u size m news)
    (h1 : ∀ y ∈ news, y.oneCell' = true) (h63 : n + m ≤ maxLen) (hbytes : (n + m) * bytes ≤ 140737488355328) (hbase : base ≤ w.heap.size)
    (h : ∀ v' w', w'.ownsRow base e size v' (n + m) (xs ++ news) → w.grownBy w' v.ownBlock → K (a.put o.dst v') w') :
    if Region.wanted o (yielded ops a.tmps) = true then Oper.wp P o a w K Q else E := by
  rw [if_pos hw]
  obtain ⟨v', w', hrun, h2, h3⟩ := run_app (P := P) (ty := o.type) ht hi hz hsize hby hzs hsz w base v n xs hown u m news hr h1 h63 hbytes hbase
  unfold Oper.wp execOp
  simp only [ho, resolve, invoke, builtin, Sem.run_bind, Sem.run_pure, Result.andThen_ok, List.map_toArray, List.map_cons, List.map_nil, hs, hx, hrun]
  exact h v' w' h2 h3
end
theorem keeps_appG {N : Nat} {w0 w w' : World} {X : Prop} {e : TypeId} {size n : Nat} {v : Value} {xs : List Value} (h1 : N ≤ w.heap.size ∧ Below N w0 w ∧ X) (hg : w.grownBy w' v.ownBlock) (hown : w.ownsRow N e size v n xs) : N ≤ w'.heap.size ∧ Below N w0 w' ∧ ∀ b k, b < N → w'.cell? ⟨b, k, none⟩ = w0.cell? ⟨b, k, none⟩ :=
  have h := below_app h1.2.1 hg hown (Nat.le_refl _) h1.1
  ⟨Nat.le_trans h1.1 hg.size, h, fun b o hb => h.cell (p := ⟨b, o, none⟩) hb⟩
theorem sorderV (l : List US) (n : Nat) (u : Value) (v : ByteArray) (w : World) (h : SR w u 4 n (uCs l)) (hn : n ≤ 12) (hus : ∀ u ∈ l, u.v.size ≤ maxLen) (hv : v.size ≤ maxLen) :
    Calls Try.prog 18 #[u, .string v] w fun e w' => BR e (Ord l 0 v) ∧ Below w.heap.size w w' := by
  obtain ⟨a, c, rfl, -, -⟩ := h.form
  exact sorder l a n c v w h hn hus hv
theorem use_of {w : World} {c : Array Value} (h : Fits w shU c.toList) : ∃ (b : Bool) (s : ByteArray) (f t : Int), c = #[.bool b, .string s, .int .i64 f, .int .i64 t] ∧ s.size ≤ maxLen ∧ (Lit.int .i64 f).wf = true ∧ (Lit.int .i64 t).wf = true := by
  obtain ⟨x1, y1, e1, ⟨b, rfl⟩, x2, y2, rfl, ⟨s, rfl, hs⟩, x3, y3, rfl, ⟨f, rfl, hf⟩, x4, y4, rfl, ⟨t, rfl, ht⟩, h5⟩ := h
  cases h5
  refine ⟨b, s, f, t, ?_, hs, hf, ht⟩
  rw [← Array.toArray_toList (xs := c), e1]
  rfl
theorem sr_block {w : World} {b : Nat} {A : Array Value} {t : TypeId} (h : w.heap[b]? = some (.cells A t)) (hA : A.size = 4) : SR w (.slice (some ⟨b, 0, none⟩) 1 1) 4 1 A.toList :=
  ⟨_, 1, rfl, Nat.le_refl _, by decide, by simp [hA], .inr ⟨b, 0, rfl, lt_heap h, fun j u hj => by
    simp only [World.cell?, h]
    simpa using hj⟩⟩
theorem lit_after2 {w w7 : World} {A : Array Value} {t : TypeId} (hA : A.size = 4) (hg : ((w.alloc (.cells #[] t)).alloc (.cells A t)).grownBy w7 (Value.ownBlock (.slice (some ⟨w.heap.size, 0, none⟩) 0 0))) : SR w7 (.slice (some ⟨w.heap.size + 1, 0, none⟩) 1 1) 4 1 A.toList := by
  have hg : ((w.alloc (.cells #[] t)).alloc (.cells A t)).grownBy w7 (some w.heap.size) := hg
  have h := heap_alloc_self (w.alloc (.cells #[] t)) (.cells A t)
  rw [show (w.alloc (.cells #[] t)).heap.size = w.heap.size + 1 by simp] at h
  exact sr_block ((hg.block (w.heap.size + 1) (lt_heap h) (by simp)).trans h) hA
theorem lit_after3 {w w7 : World} {A : Array Value} {t : TypeId} (hA : A.size = 4) (hg : ((w.alloc (.cells A t)).alloc (.cells #[] t)).grownBy w7 (Value.ownBlock (.slice (some ⟨w.heap.size + 1, 0, none⟩) 0 0))) : SR w7 (.slice (some ⟨w.heap.size, 0, none⟩) 1 1) 4 1 A.toList := by
  have hg : ((w.alloc (.cells A t)).alloc (.cells #[] t)).grownBy w7 (some (w.heap.size + 1)) := hg
  have h := heap_alloc_self w (.cells A t)
  have h2 := (Below.heap_alloc _ (.cells #[] t) _ (lt_heap h)).trans h
  exact sr_block ((hg.block w.heap.size (lt_heap h2) (by simp)).trans h2) hA
theorem e_own {N : Nat} {w : World} {X : Prop} (h : N ≤ w.heap.size ∧ X) : (w.alloc (.cells #[] 49)).ownsRow N 49 4 (.slice (some ⟨w.heap.size, 0, none⟩) 0 0) 0 [] := World.ownsRow_lit (base := N) w #[] 0 h.1 (by decide) rfl
theorem e_own3 {N : Nat} {w : World} {o : Obj} {X : Prop} (h : N ≤ w.heap.size ∧ X) : ((w.alloc o).alloc (.cells #[] 49)).ownsRow N 49 4 (.slice (some ⟨w.heap.size + 1, 0, none⟩) 0 0) 0 [] := by
  have h2 := e_own (N := N) (w := w.alloc o) (X := True) ⟨by have := h.1; simp; omega, trivial⟩
  rw [show (w.alloc o).heap.size = w.heap.size + 1 by simp] at h2
  exact h2
set_option maxHeartbeats 6400000 in
set_option maxRecDepth 100000 in
theorem searchmore_law (a : Option Addr) (len cap : Nat) (s : ByteArray) (c : Array Value) (w : World) (hf : Fits w (.slice shU) [.slice a len cap]) (hs : s.size ≤ maxLen) (hc : Fits w shU c.toList) :
    Calls Try.prog 5 #[.slice a len cap, .string s, .agg c] w fun e w' => e = .returned (.bool true) ∧ Below w.heap.size w w' := by
  obtain ⟨l, hl, hE, hR⟩ := uses_of hf
  have hlm : len ≤ maxLen := by
    obtain ⟨a', c', e, h1, h2, -⟩ := hE
    injection e with _ e2 e3
    omega
  obtain ⟨yw, yv, yf, yt, rfl, hyv, hyf, hyt⟩ := use_of hc
  have hb0 := (Below.refl w.heap.size w).alloc (Nat.le_refl _) (.cells #[.bool yw, .string yv, .int .i64 yf, .int .i64 yt] 49)
  have hx0 := heap_alloc_self w (.cells #[.bool yw, .string yv, .int .i64 yf, .int .i64 yt] 49)
  have cn := near40 false l a len cap (w.alloc (.cells #[.bool yw, .string yv, .int .i64 yf, .int .i64 yt] 49)) (hE.below hb0) hl hR hlm
  obtain ⟨t, ht⟩ : ∃ t, min (s.size : Int) 1 = t := ⟨_, rfl⟩
  have ht1 : t ≤ 1 := by omega
  have ht2 : t ≤ (s.size : Int) := by omega
  have ht0 : 0 ≤ t := by omega
  obtain ⟨V, hV⟩ : ∃ T : ByteArray, s.extract 0 t.toNat = T := ⟨_, rfl⟩
  have hVs : V.size ≤ maxLen := by
    have : V.size ≤ 1 := by rw [← hV, ByteArray.size_extract]; omega
    unfold maxLen
    omega
  obtain ⟨u, hu⟩ : ∃ u, min (yv.size : Int) 2 = u := ⟨_, rfl⟩
  have hu1 : u ≤ 2 := by omega
  have hu2 : u ≤ (yv.size : Int) := by omega
  have hu0 : 0 ≤ u := by omega
  obtain ⟨Y, hY⟩ : ∃ T : ByteArray, yv.extract 0 u.toNat = T := ⟨_, rfl⟩
  have hYs : Y.size ≤ maxLen := by
    have : Y.size ≤ 2 := by rw [← hY, ByteArray.size_extract]; omega
    unfold maxLen
    omega
  have h15 := mask15 yf
  obtain ⟨F, hF⟩ : ∃ F, yf % 16 = F := ⟨_, rfl⟩
  rw [hF] at h15
  have HF := Lib.hid (show 0 ≤ F ∧ F ≤ 15 by omega)
  have HVS := Lib.hid hVs
  have HYS := Lib.hid hYs
  unfold maxLen at hs hyv
  clear hf hE hR hl hlm hc hyf hyt hVs hYs hF
  go_enter Try.func5, Try.ntmps5
  go_upto_region 1 with fail
  generalize w.alloc (.cells #[.bool yw, .string yv, .int .i64 yf, .int .i64 yt] 49) = w0 at *
  have HB0 := Lib.hid hb0
  have HX0 := Lib.hid hx0
  clear hb0 hx0
  go_wp2_with fail
  refine Calls.mono cn ?_
  rintro e w1 ⟨xa, k, xc, out, rfl, hsr, hk7, hnu, hb1⟩
  have HB1 := Lib.hid (HB0.out.trans (hb1.mono HB0.out.size))
  have hx1 := below_at hb1 (lt_heap HX0.out) HX0.out
  have HO := Lib.hid (And.intro hsr hnu)
  clear cn hsr hnu hb1 HX0 HB0
  go_upto_region 3 with fail
  have ht' : (if (1 : Int) < s.size then (1 : Int) else (s.size : Int)) = t := by split <;> omega
  simp only [ht', hV]
  have a1 := cellU hx1 1 (v := .string yv) rfl
  have a2 := cellU hx1 2 (v := .int .i64 yf) rfl
  have hu' : (if (2 : Int) < yv.size then (2 : Int) else (yv.size : Int)) = u := by split <;> omega
  have hlt0 := lt_heap hx1
  have hne0 : ¬ w.heap.size = w1.heap.size := by omega
  have hF0 : 0 ≤ F ∧ F ≤ 15 := HF.out
  have hx3 := heap_alloc_self w1 (.cells #[.bool true, .string Y, .int .i64 F, .int .i64 1073741824] 49)
  have hb3 := (Below.refl w1.heap.size w1).alloc (Nat.le_refl _) (.cells #[.bool true, .string Y, .int .i64 F, .int .i64 1073741824] 49)
  have H3 := Lib.hid (And.intro hx3 hb3)
  clear hx1 ht hV ht' hx3 hb3 hF0
  go_region
  obtain ⟨w3, hw3⟩ : ∃ W, (w1.alloc (.cells #[.bool true, .string Y, .int .i64 F, .int .i64 1073741824] 49)).drew = W := ⟨_, rfl⟩
  rw [hw3]
  have hx3 : w3.heap[w1.heap.size]? = some (.cells #[.bool true, .string Y, .int .i64 F, .int .i64 1073741824] 49) := by rw [← hw3]; exact H3.out.1
  have hb3 : Below w1.heap.size w1 w3 := by rw [← hw3]; exact below_drew' H3.out.2
  obtain ⟨P, hP⟩ : ∃ P, w1.heap.size = P := ⟨_, rfl⟩
  obtain ⟨N, hN⟩ : ∃ N, w3.heap.size = N := ⟨_, rfl⟩
  have hPN : P < N := by rw [← hP, ← hN]; exact lt_heap hx3
  have HS3 := Lib.hid (HO.out.1.below hb3)
  have HNU := Lib.hid HO.out.2
  have HB3 := Lib.hid (HB1.out.trans (hb3.mono HB1.out.size))
  have HN := Lib.hid hN
  rw [hP] at hx3 ⊢
  have y0 := cellU hx3 0 (v := .bool true) rfl
  have y1 := cellU hx3 1 (v := .string Y) rfl
  have y2 := cellU hx3 2 (v := .int .i64 F) rfl
  have y3 := cellU hx3 3 (v := .int .i64 1073741824) rfl
  clear hx3 hb3 hw3 H3 a1 a2 hu' hlt0 hne0 hu hu0 hu1 hu2 hY ht0 ht1 ht2 HO HB1 h15 hP hN
  have hus : ∀ x ∈ out, x.v.size ≤ maxLen := fun x hx => by have := (HNU.out x hx).2.2.2.2; unfold maxLen; omega
  have cA := fun w' (h : N ≤ w'.heap.size) => (awake40 w').mono fun e w'' (q : e = _ ∧ _) => (⟨q.1, stays_of h q.2⟩ : e = .returned (.bool true) ∧ Stays N w' w'')
  by_cases hord : Ord out 0 V
  · have hord2 := Ord.more (y := ⟨true, Y, F, 1073741824⟩) rfl (fun x hx => by have := HNU.out x hx; have := this.2.1; omega) hord
    have hsx := fun w' (h : N ≤ w'.heap.size ∧ Below N w3 w' ∧ ∀ b o, b < N → w'.cell? ⟨b, o, none⟩ = w3.cell? ⟨b, o, none⟩) => HS3.out.below (HN.out ▸ h.2.1)
    have cO := fun w' (h : N ≤ w'.heap.size ∧ Below N w3 w' ∧ ∀ b o, b < N → w'.cell? ⟨b, o, none⟩ = w3.cell? ⟨b, o, none⟩) => (sorder out xa k xc V w' (hsx w' h) (by omega) hus HVS.out).mono fun e w'' (q : BR e _ ∧ _) => (by
      obtain ⟨⟨b, rfl, hb⟩, q2⟩ := q
      obtain rfl := br_true hb hord
      exact ⟨rfl, stays_of h.1 q2⟩ : e = .returned (.bool true) ∧ Stays N w' w'')
    have cO2 := fun w' v' (h : N ≤ w'.heap.size) (hs : SR w' v' 4 (0 + k + 1) ([] ++ uCs out ++ uCs [⟨true, Y, F, 1073741824⟩])) => (sorderV (out ++ [⟨true, Y, F, 1073741824⟩]) (0 + k + 1) v' V w' (by rw [← uCs_append]; exact hs) (by omega) (fun x hx => (List.mem_append.1 hx).elim (hus x) (fun q => by rw [List.mem_singleton.1 q]; exact HYS.out)) HVS.out).mono fun e w'' (q : BR e _ ∧ _) => (by
      obtain ⟨⟨b, rfl, hb⟩, q2⟩ := q
      obtain rfl := br_true hb hord2
      exact ⟨rfl, stays_of h q2⟩ : e = .returned (.bool true) ∧ Stays N w' w'')
    have hks := keeps_start HN.out
    obtain ⟨i0, hi0, hz0, hz1, hz2⟩ := use_zero
    go_upto_region 4 with fail
    go_region_held3 (fun w' => N ≤ w'.heap.size ∧ Below N w3 w' ∧ ∀ b o, b < N → w'.cell? ⟨b, o, none⟩ = w3.cell? ⟨b, o, none⟩) (first | exact hks | exact keeps_alloc (by assumption) | exact keeps_next (by assumption) (by assumption) | exact keeps_appG (by assumption) gr8 own7 | exact keeps_appG (by assumption) gr8 (own7.alloc _) | exact keeps_appG (by assumption) gr7 (e_own (by assumption)) | exact keeps_appG (by assumption) gr7 ((e_own (by assumption)).alloc _) | exact keeps_appG (by assumption) gr7 (e_own3 (by assumption))) (first | (go_at_call 17; (with_reducible refine Calls.mono (cA _ ?hk) ?_); (case hk => exact And.left (by assumption)); rintro e wa ⟨rfl, hza⟩) | (go_at_call 18; (with_reducible refine Calls.mono (cO _ ?hk) ?_); (case hk => assumption); rintro e wb ⟨rfl, hzb⟩) | (go_at_call 18; (with_reducible refine Calls.mono (cO2 _ _ ?hk (SR.owns own8)) ?_); (case hk => exact And.left (by assumption)); rintro e wl ⟨rfl, hzl⟩) | (refine step_appG Try.underlying43 hi0 hz0 hz1 hz2 rfl (by decide) (by rfl) (.tmp 35) (.tmp 36) rfl N _ 0 [] rfl (by first | exact e_own (by assumption) | exact (e_own (by assumption)).alloc _ | exact e_own3 (by assumption)) _ k (uCs out) rfl (hsx _ (by assumption)) (uCs_one _) (by unfold maxLen; omega) (by omega) (And.left (by assumption)) ?_; intro v7 w7 own7 gr7; (first | (have hY7 := lit_after2 rfl gr7) | (have hY7 := lit_after3 rfl gr7) | skip)) | (refine step_appG Try.underlying43 hi0 hz0 hz1 hz2 rfl (by decide) (by rfl) (.tmp 37) (.tmp 39) rfl N _ (0 + k) ([] ++ uCs out) rfl (by first | exact own7 | exact own7.alloc _) _ 1 (uCs [⟨true, Y, F, 1073741824⟩]) rfl (by first | exact SR.lit _ _ #[.bool true, .string Y, .int .i64 F, .int .i64 1073741824] 4 1 (by decide) rfl | exact hY7) (uCs_one _) (by unfold maxLen; omega) (by omega) (And.left (by assumption)) ?_; intro v8 w8 own8 gr8))
    all_goals
      have hh := And.left (And.right (show N ≤ wl.heap.size ∧ Below N w3 wl ∧ ∀ b o, b < N → wl.cell? ⟨b, o, none⟩ = w3.cell? ⟨b, o, none⟩ by assumption))
      have HF2 := Lib.hid (HB3.out.trans (hh.mono (by have := HB3.out.size; have := HN.out; omega)))
      clear hh
      go_wp2_with fail
      go_ret
      exact ⟨rfl, HF2.out⟩
  · have cF := fun w' (h : N ≤ w'.heap.size ∧ Below N w3 w' ∧ ∀ b o, b < N → w'.cell? ⟨b, o, none⟩ = w3.cell? ⟨b, o, none⟩) => (sorder out xa k xc V w' (HS3.out.below (HN.out ▸ h.2.1)) (by omega) hus HVS.out).mono fun e w'' (q : BR e _ ∧ _) => (by
      obtain ⟨⟨b, rfl, hb⟩, q2⟩ := q
      obtain rfl := br_false hb hord
      exact ⟨rfl, stays_of h.1 q2⟩ : e = .returned (.bool false) ∧ Stays N w' w'')
    have HR := Lib.hid hord
    clear hord
    go_upto_region 4 with fail
    refine wp_region_held_drew (S := fun w' => N ≤ w'.heap.size ∧ Below N w3 w' ∧ ∀ b o, b < N → w'.cell? ⟨b, o, none⟩ = w3.cell? ⟨b, o, none⟩) (by kernel_rfl) (keeps_start HN.out) (fun hHeld => ?_)
    refine wpAnyH_ready (rs := [0]) (by kernel_rfl) (by simp) ?_
    refine AllReadyH.cons (o := { dst := some 28, op := Go.Op.call { callee := Go.Callee.value (Go.Operand.func 17), args := #[], argTypes := #[] }, type := 4, pos := "law.go:53", after := #[], guard := none }) rfl (fun K hK => ?_) AllReadyH.nil
    go_simp
    go_at_call 17
    refine Calls.mono (cA _ (And.left hHeld)) ?_
    rintro e wx ⟨rfl, hz⟩
    try simp only []
    refine hK.out _ _ (keeps_next hHeld hz) (fun hHeld2 => ?_)
    clear hK K hz hHeld
    have hHeld := hHeld2
    clear hHeld2
    try simp only [Act.put, List.setIfInBounds_toArray, List.set_cons_zero, List.set_cons_succ]
    refine wpAnyH_take (i := 1) (oi := { dst := some 29, op := Go.Op.move (Go.Operand.tmp 28), type := 4, pos := "law.go:53", after := #[{ on := 0, ground := Go.Ground.data }, { on := 0, ground := Go.Ground.chain }], guard := none }) (v := ?v1) rfl (by kernel_rfl) (by kernel_rfl) (by kernel_rfl) (fun _ _ _ h => h) (Or.inl ⟨by rfl, ?y1⟩) (by assumption) ?r1
    case y1 => (intro w hSw; (try dsimp only at hSw); go_simp; try with_reducible rfl)
    try simp only [Act.put, List.setIfInBounds_toArray, List.set_cons_zero, List.set_cons_succ]
    refine wpAnyH_take (i := 2) (oi := { dst := some 30, op := Go.Op.move (Go.Operand.tmp 7), type := 43, pos := "law.go:53", after := #[{ on := 1, ground := Go.Ground.guard }], guard := some (1, true) }) (v := ?v2) rfl (by kernel_rfl) (by kernel_rfl) (by kernel_rfl) (fun _ _ _ h => h) (Or.inl ⟨by rfl, ?y2⟩) (by assumption) ?r2
    case y2 => (intro w hSw; (try dsimp only at hSw); go_simp; try with_reducible rfl)
    try simp only [Act.put, List.setIfInBounds_toArray, List.set_cons_zero, List.set_cons_succ]
    refine wpAnyH_take (i := 3) (oi := { dst := some 31, op := Go.Op.move (Go.Operand.tmp 8), type := 9, pos := "law.go:53", after := #[{ on := 1, ground := Go.Ground.guard }], guard := some (1, true) }) (v := ?v3) rfl (by kernel_rfl) (by kernel_rfl) (by kernel_rfl) (fun _ _ _ h => h) (Or.inl ⟨by rfl, ?y3⟩) (by assumption) ?r3
    case y3 => (intro w hSw; (try dsimp only at hSw); go_simp; try with_reducible rfl)
    try simp only [Act.put, List.setIfInBounds_toArray, List.set_cons_zero, List.set_cons_succ]
    refine wpAnyH_ready (rs := [4]) (by kernel_rfl) (by simp) ?_
    refine AllReadyH.cons (o := { dst := some 32, op := Go.Op.call { callee := Go.Callee.value (Go.Operand.func 18), args := #[Go.Operand.tmp 30, Go.Operand.tmp 31], argTypes := #[43, 9] }, type := 4, pos := "law.go:53", after := #[{ on := 2, ground := Go.Ground.data }, { on := 3, ground := Go.Ground.data }, { on := 1, ground := Go.Ground.chain }, { on := 1, ground := Go.Ground.guard }], guard := some (1, true) }) rfl (fun K hK => ?_) AllReadyH.nil
    go_simp
    go_at_call 18
    refine Calls.mono (cF _ hHeld) ?_
    rintro e wx ⟨rfl, hz⟩
    try simp only []
    refine hK.out _ _ (keeps_next hHeld hz) (fun hHeld2 => ?_)
    clear hK K hz hHeld
    have hHeld := hHeld2
    clear hHeld2
    try simp only [Act.put, List.setIfInBounds_toArray, List.set_cons_zero, List.set_cons_succ]
    refine wpAnyH_take (i := 5) (oi := { dst := some 33, op := Go.Op.unOp Go.UnOp.not 4 (Go.Operand.tmp 32), type := 4, pos := "law.go:53", after := #[{ on := 4, ground := Go.Ground.data }, { on := 1, ground := Go.Ground.guard }], guard := some (1, true) }) (v := ?v5) rfl (by kernel_rfl) (by kernel_rfl) (by kernel_rfl) (fun _ _ _ h => h) (Or.inl ⟨by rfl, ?y5⟩) (by assumption) ?r5
    case y5 => (intro w hSw; (try dsimp only at hSw); go_simp; try with_reducible rfl)
    try simp only [Act.put, List.setIfInBounds_toArray, List.set_cons_zero, List.set_cons_succ]
    refine wpAnyH_take (i := 6) (oi := { dst := some 34, op := Go.Op.move (Go.Operand.tmp 33), type := 4, pos := "law.go:53", after := #[{ on := 5, ground := Go.Ground.data }, { on := 4, ground := Go.Ground.chain }, { on := 1, ground := Go.Ground.guard }], guard := some (1, true) }) (v := ?v6) rfl (by kernel_rfl) (by kernel_rfl) (by kernel_rfl) (fun _ _ _ h => h) (Or.inl ⟨by rfl, ?y6⟩) (by assumption) ?r6
    case y6 => (intro w hSw; (try dsimp only at hSw); go_simp; try with_reducible rfl)
    try simp only [Act.put, List.setIfInBounds_toArray, List.set_cons_zero, List.set_cons_succ]
    refine wpAnyH_take (i := 7) (oi := { dst := some 35, op := Go.Op.buildSlice 43 0 #[], type := 43, pos := "law.go:53", after := #[{ on := 6, ground := Go.Ground.guard }], guard := some (6, false) }) (v := undef) rfl (by kernel_rfl) (by kernel_rfl) (by kernel_rfl) (fun _ _ _ h => h) (Or.inr ⟨by rfl, rfl⟩) (by assumption) ?_
    try simp only [Act.put, List.setIfInBounds_toArray, List.set_cons_zero, List.set_cons_succ]
    refine wpAnyH_take (i := 8) (oi := { dst := some 36, op := Go.Op.move (Go.Operand.tmp 7), type := 43, pos := "law.go:53", after := #[{ on := 6, ground := Go.Ground.guard }], guard := some (6, false) }) (v := undef) rfl (by kernel_rfl) (by kernel_rfl) (by kernel_rfl) (fun _ _ _ h => h) (Or.inr ⟨by rfl, rfl⟩) (by assumption) ?_
    try simp only [Act.put, List.setIfInBounds_toArray, List.set_cons_zero, List.set_cons_succ]
    refine wpAnyH_take (i := 9) (oi := { dst := some 37, op := Go.Op.call { callee := Go.Callee.builtin Go.Builtin.append, args := #[Go.Operand.tmp 35, Go.Operand.tmp 36], argTypes := #[43, 43] }, type := 43, pos := "law.go:53", after := #[{ on := 7, ground := Go.Ground.data }, { on := 8, ground := Go.Ground.data }, { on := 6, ground := Go.Ground.chain }, { on := 6, ground := Go.Ground.guard }], guard := some (6, false) }) (v := undef) rfl (by kernel_rfl) (by kernel_rfl) (by kernel_rfl) (fun _ _ _ h => h) (Or.inr ⟨by rfl, rfl⟩) (by assumption) ?_
    try simp only [Act.put, List.setIfInBounds_toArray, List.set_cons_zero, List.set_cons_succ]
    refine wpAnyH_take (i := 10) (oi := { dst := some 38, op := Go.Op.load 49 (Go.Operand.tmp 9), type := 49, pos := "law.go:53", after := #[{ on := 6, ground := Go.Ground.guard }], guard := some (6, false) }) (v := undef) rfl (by kernel_rfl) (by kernel_rfl) (by kernel_rfl) (fun _ _ _ h => h) (Or.inr ⟨by rfl, rfl⟩) (by assumption) ?_
    try simp only [Act.put, List.setIfInBounds_toArray, List.set_cons_zero, List.set_cons_succ]
    refine wpAnyH_take (i := 11) (oi := { dst := some 39, op := Go.Op.buildSlice 43 1 #[(0, Go.Operand.tmp 38)], type := 43, pos := "law.go:53", after := #[{ on := 10, ground := Go.Ground.data }, { on := 6, ground := Go.Ground.guard }], guard := some (6, false) }) (v := undef) rfl (by kernel_rfl) (by kernel_rfl) (by kernel_rfl) (fun _ _ _ h => h) (Or.inr ⟨by rfl, rfl⟩) (by assumption) ?_
    try simp only [Act.put, List.setIfInBounds_toArray, List.set_cons_zero, List.set_cons_succ]
    refine wpAnyH_take (i := 12) (oi := { dst := some 40, op := Go.Op.call { callee := Go.Callee.builtin Go.Builtin.append, args := #[Go.Operand.tmp 37, Go.Operand.tmp 39], argTypes := #[43, 43] }, type := 43, pos := "law.go:53", after := #[{ on := 9, ground := Go.Ground.data }, { on := 11, ground := Go.Ground.data }, { on := 9, ground := Go.Ground.chain }, { on := 6, ground := Go.Ground.guard }], guard := some (6, false) }) (v := undef) rfl (by kernel_rfl) (by kernel_rfl) (by kernel_rfl) (fun _ _ _ h => h) (Or.inr ⟨by rfl, rfl⟩) (by assumption) ?_
    try simp only [Act.put, List.setIfInBounds_toArray, List.set_cons_zero, List.set_cons_succ]
    refine wpAnyH_take (i := 13) (oi := { dst := some 41, op := Go.Op.move (Go.Operand.tmp 8), type := 9, pos := "law.go:53", after := #[{ on := 6, ground := Go.Ground.guard }], guard := some (6, false) }) (v := undef) rfl (by kernel_rfl) (by kernel_rfl) (by kernel_rfl) (fun _ _ _ h => h) (Or.inr ⟨by rfl, rfl⟩) (by assumption) ?_
    try simp only [Act.put, List.setIfInBounds_toArray, List.set_cons_zero, List.set_cons_succ]
    refine wpAnyH_take (i := 14) (oi := { dst := some 42, op := Go.Op.call { callee := Go.Callee.value (Go.Operand.func 18), args := #[Go.Operand.tmp 40, Go.Operand.tmp 41], argTypes := #[43, 9] }, type := 4, pos := "law.go:53", after := #[{ on := 12, ground := Go.Ground.data }, { on := 13, ground := Go.Ground.data }, { on := 12, ground := Go.Ground.chain }, { on := 6, ground := Go.Ground.guard }], guard := some (6, false) }) (v := undef) rfl (by kernel_rfl) (by kernel_rfl) (by kernel_rfl) (fun _ _ _ h => h) (Or.inr ⟨by rfl, rfl⟩) (by assumption) ?_
    try simp only [Act.put, List.setIfInBounds_toArray, List.set_cons_zero, List.set_cons_succ]
    refine wpAnyH_take (i := 15) (oi := { dst := some 43, op := Go.Op.pick (Go.Operand.tmp 34) (Go.Operand.const (Go.Value.bool true)) (Go.Operand.tmp 42), type := 4, pos := "law.go:53", after := #[{ on := 6, ground := Go.Ground.data }, { on := 14, ground := Go.Ground.data }, { on := 1, ground := Go.Ground.guard }], guard := some (1, true) }) (v := ?v15) rfl (by kernel_rfl) (by kernel_rfl) (by kernel_rfl) (fun _ _ _ h => h) (Or.inl ⟨by rfl, ?y15⟩) (by assumption) ?r15
    case y15 => (intro w hSw; (try dsimp only at hSw); go_simp; try with_reducible rfl)
    try simp only [Act.put, List.setIfInBounds_toArray, List.set_cons_zero, List.set_cons_succ]
    refine wpAnyH_take (i := 16) (oi := { dst := some 44, op := Go.Op.pick (Go.Operand.tmp 29) (Go.Operand.tmp 43) (Go.Operand.const (Go.Value.bool false)), type := 4, pos := "law.go:53", after := #[{ on := 1, ground := Go.Ground.data }, { on := 15, ground := Go.Ground.data }], guard := none }) (v := ?v16) rfl (by kernel_rfl) (by kernel_rfl) (by kernel_rfl) (fun _ _ _ h => h) (Or.inl ⟨by rfl, ?y16⟩) (by assumption) ?r16
    case y16 => (intro w hSw; (try dsimp only at hSw); go_simp; try with_reducible rfl)
    try simp only [Act.put, List.setIfInBounds_toArray, List.set_cons_zero, List.set_cons_succ]
    refine wpAnyH_take (i := 17) (oi := { dst := some 6, op := Go.Op.assign (Go.Operand.tmp 44), type := 4, pos := "law.go:53", after := #[{ on := 16, ground := Go.Ground.data }, { on := 14, ground := Go.Ground.chain }, { on := 0, ground := Go.Ground.phase }, { on := 1, ground := Go.Ground.phase }, { on := 2, ground := Go.Ground.phase }, { on := 3, ground := Go.Ground.phase }, { on := 4, ground := Go.Ground.phase }, { on := 5, ground := Go.Ground.phase }, { on := 6, ground := Go.Ground.phase }, { on := 7, ground := Go.Ground.phase }, { on := 8, ground := Go.Ground.phase }, { on := 9, ground := Go.Ground.phase }, { on := 10, ground := Go.Ground.phase }, { on := 11, ground := Go.Ground.phase }, { on := 12, ground := Go.Ground.phase }, { on := 13, ground := Go.Ground.phase }, { on := 14, ground := Go.Ground.phase }, { on := 15, ground := Go.Ground.phase }, { on := 16, ground := Go.Ground.phase }], guard := none }) (v := ?v17) rfl (by kernel_rfl) (by kernel_rfl) (by kernel_rfl) (fun _ _ _ h => h) (Or.inl ⟨by rfl, ?y17⟩) (by assumption) ?r17
    case y17 => (intro w hSw; (try dsimp only at hSw); go_simp; try with_reducible rfl)
    try simp only [Act.put, List.setIfInBounds_toArray, List.set_cons_zero, List.set_cons_succ]
    refine wpAnyH_done (by kernel_rfl) ?_ _
    have hh := And.left (And.right hHeld)
    clear hHeld
    go_wp2_with fail
    go_ret
    exact ⟨ret_bool (by simp), HB3.out.trans (hh.mono (by have := HB3.out.size; have := HN.out; omega))⟩
end Go.Proofs.Ytbmjkieikaapfaa
