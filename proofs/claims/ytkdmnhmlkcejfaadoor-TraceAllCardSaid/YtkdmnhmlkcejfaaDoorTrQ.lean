/-
  trace.Acts: the acts of frames, up to the first that is none; a scope with two labels. Written by gentrq.py.
-/
import Derived.Test.YtkdmnhmlkcejfaaDoorTrO
import Derived.Test.YtkdmnhmlkcejfaaDoorTrF
import Derived.Scope
import Derived.ScopeJumps
namespace Go.Proofs.YtkdmnhmlkcejfaaDoor
open Go.RowKit
set_option linter.unusedVariables false
set_option linter.unusedSimpArgs false

/-- by a goto: what holds at its label; else Q -/
def jumpsT (J : Nat → Act → World → Prop) (Q : Exit → Act → World → Prop) : Exit → Act → World → Prop
  | .goto l, a, w => J l a w
  | e, a, w => Q e a w
/-- a scope with any labels: what holds at each of them, and a measure that falls from one jump to the next -/
theorem scopeT {P : Program} {c : Code} {a : Act} {w : World} {Q : Exit → Act → World → Prop} (J : Nat → Act → World → Prop) (μ : Nat → Act → World → Nat)
    (pass : ∀ l a w, J l a w → ∃ r, findLabel c l = some r ∧ r.wp P (jumpsT (fun l' a' w' => J l' a' w' ∧ μ l' a' w' < μ l a w) Q) a w)
    (first : c.wp P (jumpsT J Q) a w) : (Code.scope c).wp P Q a w := by
  intro b k cs
  have go : ∀ l r, findLabel c l = some r → gotoIn l (.inScope c :: k) = some (.code r :: .inScope c :: k) := fun l r h => by simp [gotoIn, h]
  have key : ∀ m l a w r, μ l a w < m → J l a w → findLabel c l = some r → ∃ e a' w', Q e a' w' ∧ Arrives P (lone (b.at a (.code r :: .inScope c :: k)) cs w) b k cs e a' w' := by
    intro m
    induction m with
    | zero => intro l a w r h; omega
    | succ m ih =>
      intro l a w r hm hJ hr
      obtain ⟨r', hr', hp⟩ := pass l a w hJ
      obtain rfl : r' = r := Option.some.inj (hr'.symm.trans hr)
      obtain ⟨e, a1, w1, hq, har⟩ := hp b (.inScope c :: k) cs
      cases e with
      | goto l2 =>
        obtain ⟨hJ2, hlt⟩ := hq
        obtain ⟨r2, hr2, -⟩ := pass l2 a1 w1 hJ2
        obtain ⟨e2, a2, w2, hq2, har2⟩ := ih l2 a1 w1 r2 (by omega) hJ2 hr2
        exact ⟨e2, a2, w2, hq2, .of_steps (har _ (go l2 r2 hr2)) har2⟩
      | normal => exact ⟨.normal, a1, w1, hq, Steps.trans har (.one step_inScope)⟩
      | exit id => exact ⟨.exit id, a1, w1, hq, fun k' hk => har k' (by simp [exitTo, hk])⟩
      | ret => exact ⟨_, a1, w1, hq, har⟩
      | panic ch => exact ⟨_, a1, w1, hq, har⟩
      | outgrown => exact ⟨_, a1, w1, hq, har⟩
  obtain ⟨e, a1, w1, hq, har⟩ := first b (.inScope c :: k) cs
  cases e with
  | goto l =>
    obtain ⟨r, hr, -⟩ := pass l a1 w1 hq
    obtain ⟨e2, a2, w2, hq2, har2⟩ := key _ l a1 w1 r (Nat.lt_succ_self _) hq hr
    exact ⟨e2, a2, w2, hq2, .of_steps (.head step_scope (har _ (go l r hr))) har2⟩
  | normal => exact ⟨.normal, a1, w1, hq, .head step_scope (Steps.trans har (.one step_inScope))⟩
  | exit id => exact ⟨.exit id, a1, w1, hq, fun k' hk => .head step_scope (har k' (by simp [exitTo, hk]))⟩
  | ret => exact ⟨_, a1, w1, hq, .of_steps (.one step_scope) har⟩
  | panic ch => exact ⟨_, a1, w1, hq, .of_steps (.one step_scope) har⟩
  | outgrown => exact ⟨_, a1, w1, hq, .of_steps (.one step_scope) har⟩
theorem str_rowT {w : World} {a : Option Addr} {n cap : Nat} {l : List (List UInt8)} (h : SR w (.slice a n cap) 1 n (tCs l)) (j : Nat) (hj : j < n) : ∃ b off t, a = some ⟨b, off, none⟩ ∧ w.cell? ⟨b, off + j, none⟩ = some (.string ⟨t.toArray⟩) ∧ l[j]? = some t := by
  obtain ⟨a', cap', e, h1, h2, h3, h4⟩ := h
  injection e with e1 e2 e3
  subst e1 e3
  have hl : l.length = n := by simpa [tCs] using h3
  rcases h4 with h4 | ⟨b, off, rfl, hb, hc⟩
  · omega
  · have hlt : j < l.length := by omega
    exact ⟨b, off, l[j], rfl, hc j _ (by simp [tCs, List.getElem?_eq_getElem hlt]), List.getElem?_eq_getElem hlt⟩
theorem laidF_snoc (ts : List (List UInt8)) (j : Nat) (t : List UInt8) (hj : ts[j]? = some t) : laidF (ts.take (j + 1)) = laidF (ts.take j) ++ frameB t := by
  obtain ⟨hlt, e⟩ := List.getElem?_eq_some_iff.1 hj
  rw [List.take_succ_eq_append_getElem hlt, e]
  simp [laidF]
theorem exit_frameT {K : Act → World → Prop} {Q : Exit → Act → World → Prop} {a : Act} {w : World} (h : ∀ b x, b = a → x = w → Exit.then K Q Exit.normal b x) : Exit.then K Q Exit.normal a w := h a w rfl rfl
/-- what holds at the labels -/
structure AtN (w w1 wr : World) (ts : List (List UInt8)) (bA : Option Addr) (bc n i : Nat) (v : Value) (m : Int) (ls : List AN) : Prop where
  row : ARw wr w1.heap.size v ls
  below : Below w.heap.size w w1
  later : Below w1.heap.size w1 wr
  texts : SR w1 (.slice bA n bc) 1 n (tCs ts)
  acts : ls.map (·.t) = (ts.take i).map outT
  many : m = ((laidF (ts.take i)).length : Int)

set_option maxHeartbeats 12800000 in
set_option maxRecDepth 100000 in
theorem tacts (ts : List (List UInt8)) (tl : List UInt8) (w : World) (hts : ∀ t ∈ ts, t.length ≤ 1100) (hok : ∀ t ∈ ts, actE t = 0) (hst : StF (laidF ts ++ tl) ts.length) (hn : ts.length ≤ 20) (hl : (laidF ts ++ tl).length ≤ 100000) (hT : Tab w) :
    Calls Tryd.prog 20 #[.string ⟨(laidF ts ++ tl).toArray⟩] w fun e w' => (∃ v ls, e = .returned (.tuple #[v, .int .i64 ((laidF ts).length : Int)]) ∧ ARw w' w.heap.size v ls ∧ ls.map (·.t) = ts.map outT) ∧ Below w.heap.size w w' := by
  obtain ⟨i0, hi, hz0, hz1, hz2⟩ := info_parts info_act
  have hgo := go_laid (tl := tl) hts
  have hgot := got_laid (tl := tl) hts (Nat.le_refl _)
  have hgl := gotF_len (laidF ts ++ tl) ts.length
  rw [List.drop_of_length_le (Nat.le_of_eq hgl), List.append_nil] at hgot
  have cf := fall (laidF ts ++ tl) w hl hT
  obtain ⟨s, hs⟩ : ∃ s, laidF ts ++ tl = s := ⟨_, rfl⟩
  rw [hs] at cf hgo hst hgot ⊢
  have HT := Lib.hid hT
  have HG := Lib.hid (And.intro hgo (And.intro hst hgot))
  have HTS := Lib.hid (And.intro hts hok)
  have HLL := Lib.hid (laidF_len hts)
  obtain ⟨n, hnn⟩ : ∃ n, ts.length = n := ⟨_, rfl⟩
  have HN := Lib.hid hnn
  rw [hnn] at hn
  clear hs hgo hgot hgl hst hl hts hok hT hnn
  go_enter Tryd.func20, Tryd.ntmps20
  go_wp2_with fail
  refine scopeT (fun l a' w' => ∃ (w1 : World) (bA : Option Addr) (bc : Nat) (K5 : Value) (i : Nat) (v : Value) (m : Int) (ls : List AN) (u9 u10 u11 u12 u13 u14 u15 u16 u17 u18 u19 u20 u21 u22 u23 u24 u25 u26 u27 u28 u29 u30 u31 u32 u33 u34 u35 u36 u37 u38 u39 u40 u41 u42 u43 u44 u45 : Value), i ≤ n ∧ (l = 1 ∨ (l = 0 ∧ i = n)) ∧ a' = { tmps := #[.string ⟨s.toArray⟩, undef, .slice none 0 0, .int .i64 0, .slice bA n bc, K5, v, .int .i64 m, .int .i64 i, u9, u10, u11, u12, u13, u14, u15, u16, u17, u18, u19, u20, u21, u22, u23, u24, u25, u26, u27, u28, u29, u30, u31, u32, u33, u34, u35, u36, u37, u38, u39, u40, u41, u42, u43, u44, u45], defers := [] } ∧ Hid (AtN w w1 w' ts bA bc n i v m ls)) (fun l a' _ => if l = 1 then n + 1 - (intOf (a'.tmps.getD 8 undef)).toNat else 0) ?_ ?_
  · rintro l a' wr ⟨w1, bA, bc, K5, i, v, m, ls, u9, u10, u11, u12, u13, u14, u15, u16, u17, u18, u19, u20, u21, u22, u23, u24, u25, u26, u27, u28, u29, u30, u31, u32, u33, u34, u35, u36, u37, u38, u39, u40, u41, u42, u43, u44, u45, hi2, hl, rfl, HA⟩
    rcases hl with rfl | ⟨rfl, rfl⟩
    · refine ⟨_, rfl, ?_⟩
      by_cases hin : i < n
      · obtain ⟨bb, off, T, hbA, hcell, hTi⟩ := str_rowT HA.out.texts i hin
        subst hbA
        have hcellr : wr.cell? ⟨bb, off + i, none⟩ = some (.string ⟨T.toArray⟩) := by
          obtain ⟨a', cap', e, h1, h2, h3, h4⟩ := HA.out.texts
          rcases h4 with h4 | ⟨b2, off2, e2, hb2, hc2⟩
          · omega
          · injection e with e1
            rw [← e1] at e2
            injection e2 with e2
            injection e2 with e3 e4
            exact (HA.out.later.cell (p := ⟨bb, off + i, none⟩) (by show bb < _; rw [e3]; exact hb2)).trans hcell
        have hTm := List.mem_of_getElem? hTi
        have hT1 := HTS.out.1 T hTm
        have ca := tact T wr
        rw [HTS.out.2 T hTm] at ca
        have hni : (i : Int) < n := by omega
        have hne : ((i : Int) == (n : Int)) = false := by simp; omega
        have HTi := Lib.hid hTi
        have hm16 := HA.out.many
        have hmb : (laidF (ts.take i)).length ≤ 1113 * 20 := by
          have h1 := laidF_len (ts := ts.take i) fun t ht => HTS.out.1 t (List.mem_of_mem_take ht)
          have h2 : (ts.take i).length ≤ 20 := by rw [List.length_take]; omega
          omega
        have hmm : 0 ≤ m ∧ m ≤ 22260 := by omega
        clear hcell hTi hTm hm16 hmb
        go_wp2_with fail
        refine Calls.mono ca ?_
        rintro e w2 ⟨⟨um, uc, rfl, hr⟩, hb2⟩
        obtain ⟨qM, cM, e1, -, -⟩ := (SR.owns hr.m).form
        obtain ⟨qC, cC, e2, -, -⟩ := (SR.owns hr.c).form
        subst e1 e2
        obtain ⟨x, hx⟩ : ∃ x, outT T = x := ⟨_, rfl⟩
        have hll := outT_le T
        rw [hx] at hr hll ⊢
        have hszr := HA.out.later.size
        have HA2 := Lib.hid (show AN.own ⟨x, qM, cM, qC, cC⟩ w1.heap.size w2 from RW.raise hr hszr)
        have HB2 := Lib.hid (And.intro (HA.out.row.below hb2) (HA.out.later.trans (hb2.mono hszr)))
        have hcell2 : w2.cell? ⟨bb, off + i, none⟩ = some (.string ⟨T.toArray⟩) := (hb2.cell (p := ⟨bb, off + i, none⟩) (World.block_lt_of_cell? _ _ hcellr)).trans hcellr
        have HX := Lib.hid hx
        clear ca hr hb2 hx hcellr hll
        have hbx := (Below.refl w2.heap.size w2).alloc (Nat.le_refl _) (.cells (actC x (.slice qM x.M.length cM) (.slice qC x.C.length cC)) 54)
        have hqx := heap_alloc_self w2 (.cells (actC x (.slice qM x.M.length cM) (.slice qC x.C.length cC)) 54)
        have hcell3 := (hbx.cell (p := ⟨bb, off + i, none⟩) (World.block_lt_of_cell? _ _ hcell2)).trans hcell2
        have HB3 := Lib.hid (And.intro (HB2.out.1.below hbx) (And.intro (RW.below HA2.out hbx) (HB2.out.2.trans (hbx.mono HB2.out.2.size))))
        unfold actC at hbx hqx hcell3 HB3 ⊢
        go_upto_region 7 with fail
        obtain ⟨w3, hw3⟩ : ∃ w3, w2.alloc (.cells #[.int .i64 x.W, .int .i64 x.P, .int .i64 x.A, .int .i64 x.B, .int .i64 x.aW, .int .i64 x.aA, .int .i64 x.aL, .string ⟨x.D.toArray⟩, .bool x.u, .slice qM x.M.length cM, .slice qC x.C.length cC, .string ⟨x.S.toArray⟩] 54) = w3 := ⟨_, rfl⟩
        rw [hw3] at hqx hcell3 HB3 ⊢
        obtain ⟨d0, d1, d2, d3, d4, d5, d6, d7, d8, d9, d10, d11⟩ := actIn (t := x) (vm := .slice qM x.M.length cM) (vc := .slice qC x.C.length cC) hqx
        clear hw3 hbx hqx HB2 HA2 hcell2
        have hln : ls.length ≤ 20 := by have := congrArg List.length HA.out.acts; simp at this; omega
        go_wp2_with (at_builtin; refine wp_app Tryd.underlying50 hi hz0 hz1 hz2 rfl (by decide) rfl (.tmp 30) (.tmp 32) rfl w1.heap.size _ _ _ rfl (HB3.out.1.row.alloc _) _ 1 (aCells [⟨x, qM, cM, qC, cC⟩]) rfl (SR.lit _ _ #[.int .i64 x.W, .int .i64 x.P, .int .i64 x.A, .int .i64 x.B, .int .i64 x.aW, .int .i64 x.aA, .int .i64 x.aL, .string ⟨x.D.toArray⟩, .bool x.u, .slice qM x.M.length cM, .slice qC x.C.length cC, .string ⟨x.S.toArray⟩] 12 1 (by decide) rfl) ?c1 ?c2 ?c3 ?c4 ?_)
        case c1 => exact aCells_oneC _
        case c2 => unfold maxLen; omega
        case c3 => omega
        case c4 => have := HB3.out.2.2.size; simp; omega
        intro v' w5 hown hgr
        have HAR := Lib.hid (HB3.out.1.app (a := ⟨x, qM, cM, qC, cC⟩) HB3.out.2.1 hown hgr)
        have hb5 : Below w1.heap.size w1 w5 := below_app (HB3.out.2.2.alloc HB3.out.2.2.size _) hgr (HB3.out.1.row.alloc _) (Nat.le_refl _) (by simp; have := HB3.out.2.2.size; omega)
        have HB5 := Lib.hid hb5
        have hcell5 : w5.cell? ⟨bb, off + i, none⟩ = some (.string ⟨T.toArray⟩) := by
          obtain ⟨a', cap', e, h1, h2, h3, h4⟩ := HA.out.texts
          rcases h4 with h4 | ⟨b2, off2, e2, hb2, hc2⟩
          · omega
          · injection e with e1
            rw [← e1] at e2
            injection e2 with e2
            injection e2 with e3 e4
            refine (hb5.cell (p := ⟨bb, off + i, none⟩) (by show bb < _; rw [e3]; exact hb2)).trans ?_
            have := hc2 i (.string ⟨T.toArray⟩) (by have := HTi.out; simp [tCs, this])
            rw [e3, e4]
            exact this
        have cp := fput T w5 (by omega) (HT.out.below (HA.out.below.trans (hb5.mono HA.out.below.size)))
        have hfl := frame_len hT1
        have hsn := laidF_snoc ts i T HTi.out
        obtain ⟨F, hF⟩ : ∃ F, frameB T = F := ⟨_, rfl⟩
        rw [hF] at cp hfl hsn
        have hw5 : wrap64 (m + (F.length : Int)) = m + (F.length : Int) := by unfold wrap64; omega
        have hw5' : IntKind.i64.wrap (m + (F.length : Int)) = m + (F.length : Int) := by rw [IntKind.wrap_i64]; omega
        have hfz : (⟨F.toArray⟩ : ByteArray).size = F.length := rfl
        have HSN := Lib.hid hsn
        clear hown hgr hb5 hcell3 d0 d1 d2 d3 d4 d5 d6 d7 d8 d9 d10 d11 hF hsn HB3
        go_wp2_with fail
        refine Calls.mono cp ?_
        rintro e w6 ⟨rfl, hb6⟩
        have HN6 := Lib.hid (show AtN w w1 w6 ts (some ⟨bb, off, none⟩) bc n (i + 1) v' (m + (F.length : Int)) (ls ++ [⟨x, qM, cM, qC, cC⟩]) from
          ⟨HAR.out.below hb6, HA.out.below, HB5.out.trans (hb6.mono HB5.out.size), HA.out.texts, by
            rw [List.map_append, HA.out.acts]
            obtain ⟨hlt, e⟩ := List.getElem?_eq_some_iff.1 HTi.out
            rw [List.take_succ_eq_append_getElem hlt, e, List.map_append]
            simp [HX.out], by rw [HSN.out, List.length_append, HA.out.many]; push_cast; omega⟩)
        clear cp hb6 hcell5 HAR HB5
        go_wp2_with fail
        go_step3
        exact ⟨⟨w1, _, bc, _, i + 1, v', m + (F.length : Int), _, _, _, _, _, _, _, _, _, _, _, _, _, _, _, _, _, _, _, _, _, _, _, _, _, _, _, _, _, _, _, _, _, _, _, _, _, _, by omega, .inl rfl, rfl, HN6⟩, by simp [intOf]; omega⟩
      · obtain rfl : n = i := by omega
        have heq : ((n : Int) == (n : Int)) = true := by simp
        go_wp2_with fail
        go_step3
        exact ⟨⟨w1, bA, bc, _, n, v, m, ls, _, _, _, _, _, _, _, _, _, _, _, _, _, _, _, _, _, _, _, _, _, _, _, _, _, _, _, _, _, _, _, _, _, _, _, _, _, Nat.le_refl _, .inr ⟨rfl, rfl⟩, rfl, HA⟩, by simp [intOf]⟩
    · refine ⟨_, rfl, ?_⟩
      go_wp2_with fail
      simp only [jumpsT]
      have hmn := HA.out.many
      have hall : ts.take i = ts := List.take_of_length_le (by have := HN.out; omega)
      rw [hall] at hmn
      go_returns
      refine ⟨⟨v, ls, by rw [hmn]; rfl, (HA.out.row.raise HA.out.below.size), by have h := HA.out.acts; rw [hall] at h; exact h⟩, HA.out.below.trans (HA.out.later.mono HA.out.below.size)⟩
  · go_wp2_with fail
    refine Calls.mono cf ?_
    rintro e w1 ⟨k, v5, rfl, hg', hs', hsr, hb⟩
    obtain rfl : k = ts.length := go_same hg' hs' HG.out.1 HG.out.2.1
    rw [HG.out.2.2, HN.out] at hsr
    obtain ⟨bA, bc, e5, -, -⟩ := hsr.form
    subst e5
    obtain ⟨K5, hK5⟩ : ∃ K, Value.int .i64 ((s.length : Int) - ((itF s ts.length).s.length : Int)) = K := ⟨_, rfl⟩
    rw [hK5]
    have HA := Lib.hid (show AtN w w1 w1 ts bA bc n 0 (.slice none 0 0) 0 [] from ⟨ARw.nil _ _, hb, Below.refl _ _, hsr, rfl, by simp [laidF]⟩)
    clear hg' hs' hsr hb cf hK5
    go_wp2_with fail
    go_step3
    refine exit_frameT fun fr wr hfr hwr => ?_
    obtain ⟨i, v, m, ls, u9, u10, u11, u12, u13, u14, u15, u16, u17, u18, u19, u20, u21, u22, u23, u24, u25, u26, u27, u28, u29, u30, u31, u32, u33, u34, u35, u36, u37, u38, u39, u40, u41, u42, u43, u44, u45, hfr2, hi2, HA⟩ : ∃ (i : Nat) (v : Value) (m : Int) (ls : List AN) (u9 u10 u11 u12 u13 u14 u15 u16 u17 u18 u19 u20 u21 u22 u23 u24 u25 u26 u27 u28 u29 u30 u31 u32 u33 u34 u35 u36 u37 u38 u39 u40 u41 u42 u43 u44 u45 : Value), fr = { tmps := #[.string ⟨s.toArray⟩, undef, .slice none 0 0, .int .i64 0, .slice bA n bc, K5, v, .int .i64 m, .int .i64 i, u9, u10, u11, u12, u13, u14, u15, u16, u17, u18, u19, u20, u21, u22, u23, u24, u25, u26, u27, u28, u29, u30, u31, u32, u33, u34, u35, u36, u37, u38, u39, u40, u41, u42, u43, u44, u45], defers := [] } ∧ i ≤ n ∧ Hid (AtN w w1 wr ts bA bc n i v m ls) := ⟨0, .slice none 0 0, 0, [], _, _, _, _, _, _, _, _, _, _, _, _, _, _, _, _, _, _, _, _, _, _, _, _, _, _, _, _, _, _, _, _, _, _, _, _, _, hfr, Nat.zero_le _, Lib.hid (by rw [hwr]; exact HA.out)⟩
    clear hfr hwr
    subst hfr2
    by_cases hin : i < n
    · obtain ⟨bb, off, T, hbA, hcell, hTi⟩ := str_rowT HA.out.texts i hin
      subst hbA
      have hcellr : wr.cell? ⟨bb, off + i, none⟩ = some (.string ⟨T.toArray⟩) := by
        obtain ⟨a', cap', e, h1, h2, h3, h4⟩ := HA.out.texts
        rcases h4 with h4 | ⟨b2, off2, e2, hb2, hc2⟩
        · omega
        · injection e with e1
          rw [← e1] at e2
          injection e2 with e2
          injection e2 with e3 e4
          exact (HA.out.later.cell (p := ⟨bb, off + i, none⟩) (by show bb < _; rw [e3]; exact hb2)).trans hcell
      have hTm := List.mem_of_getElem? hTi
      have hT1 := HTS.out.1 T hTm
      have ca := tact T wr
      rw [HTS.out.2 T hTm] at ca
      have hni : (i : Int) < n := by omega
      have hne : ((i : Int) == (n : Int)) = false := by simp; omega
      have HTi := Lib.hid hTi
      have hm16 := HA.out.many
      have hmb : (laidF (ts.take i)).length ≤ 1113 * 20 := by
        have h1 := laidF_len (ts := ts.take i) fun t ht => HTS.out.1 t (List.mem_of_mem_take ht)
        have h2 : (ts.take i).length ≤ 20 := by rw [List.length_take]; omega
        omega
      have hmm : 0 ≤ m ∧ m ≤ 22260 := by omega
      clear hcell hTi hTm hm16 hmb
      go_wp2_with fail
      refine Calls.mono ca ?_
      rintro e w2 ⟨⟨um, uc, rfl, hr⟩, hb2⟩
      obtain ⟨qM, cM, e1, -, -⟩ := (SR.owns hr.m).form
      obtain ⟨qC, cC, e2, -, -⟩ := (SR.owns hr.c).form
      subst e1 e2
      obtain ⟨x, hx⟩ : ∃ x, outT T = x := ⟨_, rfl⟩
      have hll := outT_le T
      rw [hx] at hr hll ⊢
      have hszr := HA.out.later.size
      have HA2 := Lib.hid (show AN.own ⟨x, qM, cM, qC, cC⟩ w1.heap.size w2 from RW.raise hr hszr)
      have HB2 := Lib.hid (And.intro (HA.out.row.below hb2) (HA.out.later.trans (hb2.mono hszr)))
      have hcell2 : w2.cell? ⟨bb, off + i, none⟩ = some (.string ⟨T.toArray⟩) := (hb2.cell (p := ⟨bb, off + i, none⟩) (World.block_lt_of_cell? _ _ hcellr)).trans hcellr
      have HX := Lib.hid hx
      clear ca hr hb2 hx hcellr hll
      have hbx := (Below.refl w2.heap.size w2).alloc (Nat.le_refl _) (.cells (actC x (.slice qM x.M.length cM) (.slice qC x.C.length cC)) 54)
      have hqx := heap_alloc_self w2 (.cells (actC x (.slice qM x.M.length cM) (.slice qC x.C.length cC)) 54)
      have hcell3 := (hbx.cell (p := ⟨bb, off + i, none⟩) (World.block_lt_of_cell? _ _ hcell2)).trans hcell2
      have HB3 := Lib.hid (And.intro (HB2.out.1.below hbx) (And.intro (RW.below HA2.out hbx) (HB2.out.2.trans (hbx.mono HB2.out.2.size))))
      unfold actC at hbx hqx hcell3 HB3 ⊢
      go_upto_region 7 with fail
      obtain ⟨w3, hw3⟩ : ∃ w3, w2.alloc (.cells #[.int .i64 x.W, .int .i64 x.P, .int .i64 x.A, .int .i64 x.B, .int .i64 x.aW, .int .i64 x.aA, .int .i64 x.aL, .string ⟨x.D.toArray⟩, .bool x.u, .slice qM x.M.length cM, .slice qC x.C.length cC, .string ⟨x.S.toArray⟩] 54) = w3 := ⟨_, rfl⟩
      rw [hw3] at hqx hcell3 HB3 ⊢
      obtain ⟨d0, d1, d2, d3, d4, d5, d6, d7, d8, d9, d10, d11⟩ := actIn (t := x) (vm := .slice qM x.M.length cM) (vc := .slice qC x.C.length cC) hqx
      clear hw3 hbx hqx HB2 HA2 hcell2
      have hln : ls.length ≤ 20 := by have := congrArg List.length HA.out.acts; simp at this; omega
      go_wp2_with (at_builtin; refine wp_app Tryd.underlying50 hi hz0 hz1 hz2 rfl (by decide) rfl (.tmp 30) (.tmp 32) rfl w1.heap.size _ _ _ rfl (HB3.out.1.row.alloc _) _ 1 (aCells [⟨x, qM, cM, qC, cC⟩]) rfl (SR.lit _ _ #[.int .i64 x.W, .int .i64 x.P, .int .i64 x.A, .int .i64 x.B, .int .i64 x.aW, .int .i64 x.aA, .int .i64 x.aL, .string ⟨x.D.toArray⟩, .bool x.u, .slice qM x.M.length cM, .slice qC x.C.length cC, .string ⟨x.S.toArray⟩] 12 1 (by decide) rfl) ?c1 ?c2 ?c3 ?c4 ?_)
      case c1 => exact aCells_oneC _
      case c2 => unfold maxLen; omega
      case c3 => omega
      case c4 => have := HB3.out.2.2.size; simp; omega
      intro v' w5 hown hgr
      have HAR := Lib.hid (HB3.out.1.app (a := ⟨x, qM, cM, qC, cC⟩) HB3.out.2.1 hown hgr)
      have hb5 : Below w1.heap.size w1 w5 := below_app (HB3.out.2.2.alloc HB3.out.2.2.size _) hgr (HB3.out.1.row.alloc _) (Nat.le_refl _) (by simp; have := HB3.out.2.2.size; omega)
      have HB5 := Lib.hid hb5
      have hcell5 : w5.cell? ⟨bb, off + i, none⟩ = some (.string ⟨T.toArray⟩) := by
        obtain ⟨a', cap', e, h1, h2, h3, h4⟩ := HA.out.texts
        rcases h4 with h4 | ⟨b2, off2, e2, hb2, hc2⟩
        · omega
        · injection e with e1
          rw [← e1] at e2
          injection e2 with e2
          injection e2 with e3 e4
          refine (hb5.cell (p := ⟨bb, off + i, none⟩) (by show bb < _; rw [e3]; exact hb2)).trans ?_
          have := hc2 i (.string ⟨T.toArray⟩) (by have := HTi.out; simp [tCs, this])
          rw [e3, e4]
          exact this
      have cp := fput T w5 (by omega) (HT.out.below (HA.out.below.trans (hb5.mono HA.out.below.size)))
      have hfl := frame_len hT1
      have hsn := laidF_snoc ts i T HTi.out
      obtain ⟨F, hF⟩ : ∃ F, frameB T = F := ⟨_, rfl⟩
      rw [hF] at cp hfl hsn
      have hw5 : wrap64 (m + (F.length : Int)) = m + (F.length : Int) := by unfold wrap64; omega
      have hw5' : IntKind.i64.wrap (m + (F.length : Int)) = m + (F.length : Int) := by rw [IntKind.wrap_i64]; omega
      have hfz : (⟨F.toArray⟩ : ByteArray).size = F.length := rfl
      have HSN := Lib.hid hsn
      clear hown hgr hb5 hcell3 d0 d1 d2 d3 d4 d5 d6 d7 d8 d9 d10 d11 hF hsn HB3
      go_wp2_with fail
      refine Calls.mono cp ?_
      rintro e w6 ⟨rfl, hb6⟩
      have HN6 := Lib.hid (show AtN w w1 w6 ts (some ⟨bb, off, none⟩) bc n (i + 1) v' (m + (F.length : Int)) (ls ++ [⟨x, qM, cM, qC, cC⟩]) from
        ⟨HAR.out.below hb6, HA.out.below, HB5.out.trans (hb6.mono HB5.out.size), HA.out.texts, by
          rw [List.map_append, HA.out.acts]
          obtain ⟨hlt, e⟩ := List.getElem?_eq_some_iff.1 HTi.out
          rw [List.take_succ_eq_append_getElem hlt, e, List.map_append]
          simp [HX.out], by rw [HSN.out, List.length_append, HA.out.many]; push_cast; omega⟩)
      clear cp hb6 hcell5 HAR HB5
      go_wp2_with fail
      go_step3
      exact ⟨w1, _, bc, _, i + 1, v', m + (F.length : Int), _, _, _, _, _, _, _, _, _, _, _, _, _, _, _, _, _, _, _, _, _, _, _, _, _, _, _, _, _, _, _, _, _, _, _, _, _, _, by omega, .inl rfl, rfl, HN6⟩
    · obtain rfl : n = i := by omega
      have heq : ((n : Int) == (n : Int)) = true := by simp
      go_wp2_with fail
      go_step3
      exact ⟨w1, bA, bc, _, n, v, m, ls, _, _, _, _, _, _, _, _, _, _, _, _, _, _, _, _, _, _, _, _, _, _, _, _, _, _, _, _, _, _, _, _, _, _, _, _, _, Nat.le_refl _, .inr ⟨rfl, rfl⟩, rfl, HA⟩
end Go.Proofs.YtkdmnhmlkcejfaaDoor
