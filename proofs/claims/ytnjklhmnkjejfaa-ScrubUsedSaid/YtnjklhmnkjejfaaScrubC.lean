/-
  scrub: Odd, Lacks; tarnlaw43's few and waking call.
-/
import Derived.Test.YtnjklhmnkjejfaaScrubB
namespace Go.Proofs.Ytnjklhmnkjejfaa
open Go.RowKit
set_option linter.unusedVariables false
set_option linter.unusedSimpArgs false

theorem int_lit (n : Int) (w : World) : SR (w.alloc (.cells #[.int .i64 n] 3)) (.slice (some ⟨w.heap.size, 0, none⟩) 1 1) 1 1 (nCells [n]) := SR.lit w 3 #[.int .i64 n] 1 1 (by decide) rfl
theorem owns_int {w' : World} {N : Nat} {v' : Value} {L : List Int} {n : Int} (h : w'.ownsRow N 3 1 v' (L.length + 1) (nCells L ++ nCells [n])) : w'.ownsRow N 3 1 v' (L ++ [n]).length (nCells (L ++ [n])) := by
  rw [← nCells_append, List.length_append]
  exact h
/-- what the other one lacks -/
noncomputable def lkS (s : List HI × List HI) (x : HI) : List HI × List HI := (putB s.1 x, if putsL (mB x.v x.d) s.1 x = true then s.2 ++ [x] else s.2)
noncomputable def lacksL (B A : List HI) : List HI × List HI := A.foldl lkS (B, [])
theorem lacks_next {B A : List HI} {j : Nat} {x : HI} (h : A[j]? = some x) : lacksL B (A.take (j + 1)) = lkS (lacksL B (A.take j)) x := by
  rw [take_next h, lacksL, List.foldl_append]; rfl
theorem lacks_len (B A : List HI) : (lacksL B A).2.length ≤ A.length := by
  have key : ∀ (A : List HI) (s : List HI × List HI), (A.foldl lkS s).2.length ≤ s.2.length + A.length := by
    intro A
    induction A with
    | nil => intro s; simp
    | cons x t ih =>
      intro s
      refine Nat.le_trans (ih _) ?_
      unfold lkS
      simp only
      split <;> simp <;> omega
  have := key A (B, [])
  unfold lacksL
  simpa using this
section
variable {P : Program}
theorem wp_appN {t e : TypeId} {i : TypeInfo} {z : Value} {size bytes : Nat} (ht : P.underlying t = some (.slice e)) (hi : P.info? e = some i) (hz : i.zero = some z) (hsize : i.size = size) (hby : i.bytes = bytes)
    (hzs : z.cells.size = size) (hsz : 0 < size) {ops : Array Oper} {rest : List Oper} {o : Oper} {a : Act} {Q : Exit → Act → World → Prop} {w : World} (hgd : o.guard = none) (s x : Operand)
    (ho : o.op = .call { callee := .builtin .append, args := #[s, x], argTypes := #[t, t] }) (base : Nat) (v : Value) (n : Nat) (xs : List Value) (hs : a.eval s = v) (hown : w.ownsRow base e size v n xs)
    (ad : Addr) (cap m : Nat) (news : List Value) (hx : a.eval x = .slice (some ad) m cap) (hr : SR w (.slice (some ad) m cap) size m news) (hm : 0 < m)
    (h1 : ∀ y ∈ news, y.oneCell' = true) (h63 : n + m ≤ maxLen) (hbytes : (n + m) * bytes ≤ 140737488355328) (hbase : base ≤ w.heap.size)
    (h : ∀ v' w', w'.ownsRow base e size v' (n + m) (xs ++ news) → w.grownBy w' v.ownBlock → (v'.ownBlock = v.ownBlock ∨ v'.ownBlock = some w.heap.size) → wpList P ops Q rest (a.put o.dst v') w') : wpList P ops Q (o :: rest) a w := by
  refine wpList_plain hgd fun K hK => ?_
  obtain ⟨a', cap', he, hmc, hcm, hl, hc⟩ := hr
  injection he with e1 _ e2
  subst e1 e2
  have hcells : ∀ (j : Nat) y, news[j]? = some y → w.cell? (ad.add j) = some y := by
    intro j y hj
    rcases hc with h0 | ⟨b, off, e2, _, hcell⟩
    · omega
    · cases e2
      rw [add_off]
      exact hcell j y hj
  obtain ⟨v', w', hrun, h2, h3, _, h5⟩ := run_append_own_at (P := P) w base t o.type e i z size bytes ht hi hz hsize hby hzs hsz v n xs hown ad m cap news hl hcells h1 h63 hbytes hbase
  unfold Oper.wp execOp
  simp only [ho, resolve, invoke, builtin, Sem.run_bind, Sem.run_pure, Result.andThen_ok, List.map_toArray, List.map_cons, List.map_nil, hs, hx, hrun]
  exact hK _ _ (h v' w' h2 h3 h5)
end
theorem owns_okept {w w' : World} {base N p n size : Nat} {e : TypeId} {o sv sv' : Value} {xs : List Value} (h : w.ownsRow base e size o n xs) (hk : OKept w w' N p sv sv') (hne : ∀ b, o.ownBlock = some b → b ≠ p ∧ some b ≠ sv.ownBlock) : w'.ownsRow base e size o n xs := by
  refine ⟨h.1, ?_⟩
  rcases h.2 with q | ⟨g, cap, cur, rfl, hb, hg, r⟩
  · exact .inl q
  · obtain ⟨n1, n2⟩ := hne g rfl
    exact .inr ⟨g, cap, cur, rfl, hb, (hk.block g (lt_heap hg) n1 n2).trans hg, r⟩
/-- what Lacks' loop keeps: a set, and a row of the loop's own -/
structure LkRel (w3 wr : World) (p : Nat) (s1 sv o : Value) (S : List HI × List HI) : Prop where
  own : wr.ownsRow w3.heap.size 45 3 o S.2.length (hCells S.2)
  set : SetAt wr p p sv S.1
  kept : OKept w3 wr p p s1 sv
  ne : ∀ b, o.ownBlock = some b → some b ≠ sv.ownBlock
  lt : p < w3.heap.size
theorem LkRel.off {w3 wr : World} {p : Nat} {s1 sv o : Value} {S : List HI × List HI} (h : LkRel w3 wr p s1 sv o S) : ∀ b, o.ownBlock = some b → b ≠ p ∧ some b ≠ sv.ownBlock := fun b e => ⟨by have := (h.own.lt b e).1; have := h.lt; omega, h.ne b e⟩
theorem LkRel.go {w3 w w' : World} {p : Nat} {s1 sv o : Value} {S : List HI × List HI} (h : LkRel w3 w p s1 sv o S) (hb : Below w.heap.size w w') : LkRel w3 w' p s1 sv o S :=
  ⟨owns_below h.own hb, h.set.below hb, h.kept.trans (OKept.of_below hb (by have := lt_heap h.set.2.1; omega)), h.ne, h.lt⟩
theorem LkRel.put {w3 w w' : World} {p : Nat} {s1 sv sv' o : Value} {S : List HI × List HI} {L : List HI} (h : LkRel w3 w p s1 sv o S) (hs : SetAt w' p p sv' L) (hk : OKept w w' p p sv sv') : LkRel w3 w' p s1 sv' o (L, S.2) := by
  refine ⟨owns_okept h.own hk h.off, hs, h.kept.trans hk, fun b e e2 => ?_, h.lt⟩
  rcases hk.new with q | q
  · exact h.ne b e (e2.trans q)
  · have := q b e2.symm; have := (h.own.lt b e).2; omega
theorem LkRel.app {w3 w w' : World} {p : Nat} {s1 sv o v' : Value} {L T : List HI} {x : HI} {ob : Obj} (h : LkRel w3 w p s1 sv o (L, T)) (hown : w'.ownsRow w3.heap.size 45 3 v' (T.length + 1) (hCells T ++ hCells [x])) (hg : (w.alloc ob).grownBy w' o.ownBlock)
    (hn : v'.ownBlock = o.ownBlock ∨ v'.ownBlock = some (w.alloc ob).heap.size) : LkRel w3 w' p s1 sv v' (L, T ++ [x]) := by
  have hw3 := h.kept.size
  have hb := app_below (Below.refl w3.heap.size w) hw3 h.own hg
  have hbl : ∀ k, k < w.heap.size → k ≠ p → some k ≠ sv.ownBlock → some k ≠ o.ownBlock → w'.heap[k]? = w.heap[k]? := fun k hk _ _ h3 => (hg.block k (by simp; omega) h3).trans (Below.heap_alloc _ _ _ hk)
  have hpo : some p ≠ o.ownBlock := fun e => (h.off p e.symm).1 rfl
  have hp : w'.heap[p]? = some (.cells #[sv] 79) := ((hg.block p (by have := lt_heap h.set.2.1; simp; omega) hpo).trans (Below.heap_alloc _ _ _ (lt_heap h.set.2.1))).trans h.set.2.1
  have hrow : w'.ownsRow p 45 3 sv L.length (hCells L) := by
    refine ⟨h.set.2.2.1.1, ?_⟩
    rcases h.set.2.2.1.2 with q | ⟨g, cap, cur, rfl, hgb, hgc, r⟩
    · exact .inl q
    · have hgo : some g ≠ o.ownBlock := fun e => h.ne g e.symm rfl
      exact .inr ⟨g, cap, cur, rfl, hgb, ((hg.block g (by have := lt_heap hgc; simp; omega) hgo).trans (Below.heap_alloc _ _ _ (lt_heap hgc))).trans hgc, r⟩
  have hpl : p ≤ w3.heap.size := Nat.le_of_lt h.lt
  refine ⟨owns_app hown, ⟨h.set.1, hp, hrow, h.set.2.2.2⟩, ⟨(h.kept.below).trans (hb.mono hpl), Nat.le_trans hw3 (by have := hg.size; simp at this; omega), fun k hk hkp hku => ?_, h.kept.new⟩, fun b e e2 => ?_, h.lt⟩
  · exact (hb.block k hk).trans (h.kept.block k hk hkp hku)
  · rcases hn with q | q
    · exact h.ne b (q.symm.trans e) e2
    · rw [q] at e
      injection e with e
      have := (h.set.2.2.1.lt b e2.symm).2
      simp at e
      omega
set_option maxHeartbeats 3200000 in
set_option maxRecDepth 400000 in
theorem slacks (l m : List HI) (hol : ∀ x ∈ l, Ok x) (hom : ∀ x ∈ m, Ok x) (w : World) (u v : Value) (hu : SR w u 3 l.length (hCells l)) (hv : SR w v 3 m.length (hCells m)) :
    Calls Try.prog 41 #[u, v] w fun e w' => ∃ v', e = .returned v' ∧ w'.ownsRow w.heap.size 45 3 v' (lacksL (putAll [] m) (putAll [] l)).2.length (hCells (lacksL (putAll [] m) (putAll [] l)).2) ∧ Below w.heap.size w w' := by
  obtain ⟨i0, hi, hz0, hz1, hz2⟩ := info_parts info_held
  have hitem : ∀ (x : Int) (D : ByteArray), itemA x D = #[.int .u64 x, .string D] := fun _ _ => rfl
  have ci := iof m hom w v hv
  have HSA := Lib.hid (srt_putAll Srt.nil (xs := l) hol)
  obtain ⟨a', cap', rfl, hlc', hcm'⟩ := hu.form
  obtain ⟨a, cap, rfl, hlc, hcm⟩ := hv.form
  have HU := Lib.hid hu
  have HOL := Lib.hid hol
  obtain ⟨A, hA⟩ : ∃ A, putAll [] l = A := ⟨_, rfl⟩
  obtain ⟨B, hB⟩ : ∃ B, putAll [] m = B := ⟨_, rfl⟩
  rw [hB] at ci
  rw [hA] at HSA
  rw [hA, hB]
  have HA := Lib.hid hA
  have hml := HSA.out.len
  clear hu hv hol hom hA hB
  go_enter Try.func41, Try.ntmps41
  go_wp2_with fail
  refine Calls.mono ci ?_
  rintro e w1 ⟨rfl, s1, hs1, hb1⟩
  have c2 := iof l HOL.out w1 _ (HU.out.below hb1)
  rw [HA.out] at c2
  have HS1 := Lib.hid hs1
  have HB1 := Lib.hid hb1
  clear hs1 hb1 ci
  go_wp2_with fail
  refine Calls.mono c2 ?_
  rintro e w2 ⟨rfl, s2, hs2, hb2⟩
  have HS12 := Lib.hid (HS1.out.below hb2)
  have HB2 := Lib.hid (HB1.out.trans (hb2.mono HB1.out.size))
  have c3 := sall _ _ _ _ _ hs2
  clear hs2 hb2 c2
  go_wp2_with fail
  refine Calls.mono c3 ?_
  rintro e w3 ⟨v3, rfl, ho3, hb3⟩
  have HS13 := Lib.hid (HS12.out.below hb3)
  have HB3 := Lib.hid (HB2.out.trans (hb3.mono HB2.out.size))
  have HR3 := Lib.hid (SR.owns ho3)
  have hap : Apart v3 s1 w.heap.size := fun b e => by
    have h1 := (ho3.lt b e).1
    have h2 := lt_heap HS12.out.2.1
    refine ⟨by omega, fun e2 => ?_⟩
    have := (HS12.out.2.2.1.lt b e2.symm).2
    omega
  have hlt3 : ∀ b, v3.ownBlock = some b → b < w3.heap.size := fun b e => (ho3.lt b e).2
  obtain ⟨a3, cap3, rfl, hlc3, hcm3⟩ := (SR.owns ho3).form
  unfold maxLen at hcm3
  have HAP := Lib.hid hap
  have HLT3 := Lib.hid hlt3
  have HLP := Lib.hid (lt_heap HS13.out.2.1)
  clear ho3 hb3 c3 HS12 hap hlt3
  go_wp2_with fail
  have HK0 := Lib.hid (show LkRel w3 w3 w.heap.size s1 s1 (.slice none 0 0) (lacksL B (A.take 0)) from ⟨World.ownsRow_nil _ _ _ _, HS13.out, OKept.refl _ _ _ _, (fun b e => by cases e), HLP.out⟩)
  go_loopw [6, 15] (fun o i wr => ∃ (j : Nat) (sv : Value), j ≤ A.length ∧ i = .int .i64 j ∧ Hid (LkRel w3 wr w.heap.size s1 sv o (lacksL B (A.take j)))) (fun _ i _ => A.length - (intOf i).toNat)
  case atStart => exact ⟨0, s1, Nat.zero_le _, rfl, HK0⟩
  case round =>
    obtain ⟨j, sv, hj, rfl, HL⟩ := hrel
    clear HK0
    by_cases hlt : j < A.length
    · obtain ⟨x, hx⟩ : ∃ x, A[j]? = some x := ⟨_, List.getElem?_eq_getElem hlt⟩
      have HRr := sr_kept HR3.out HAP.out HL.out.kept
      obtain ⟨b, off, rfl, -, c0, c1, c2⟩ := sr_held HRr j x hx
      have hb1 := (Below.refl wr.heap.size wr).alloc (Nat.le_refl _) (.cells #[.int .i64 x.b, .int .u64 x.v, .string x.d] 45)
      have hy := heap_alloc_self wr (.cells #[.int .i64 x.b, .int .u64 x.v, .string x.d] 45)
      have hol := lacks_len B (A.take j)
      have hlj : (A.take j).length ≤ j := by rw [List.length_take]; omega
      have ho := (HSA.out.all x (List.mem_of_getElem? hx)).ok
      have HX := Lib.hid (lacks_next (B := B) hx)
      obtain ⟨S, hS⟩ : ∃ S, lacksL B (A.take j) = S := ⟨_, rfl⟩
      have hll := HL.out
      rw [hS] at hol hll HX
      have hiy : IBlk (wr.alloc (.cells #[.int .i64 x.b, .int .u64 x.v, .string x.d] 45)) w.heap.size sv wr.heap.size (.cells #[.int .i64 x.b, .int .u64 x.v, .string x.d] 45) :=
        ⟨hy, by have := lt_heap hll.set.2.1; omega, fun e => by have := (hll.set.2.2.1.lt _ e.symm).2; omega⟩
      have h4 := hll.go hb1
      have hwr := hll.kept.size
      clear hx HRr hS hb1 hll
      go_upto_region 6 with fail
      generalize wr.alloc (.cells #[.int .i64 x.b, .int .u64 x.v, .string x.d] 45) = w4 at *
      obtain ⟨d0, d1, d2⟩ := held_at hy
      have cs := sput _ _ _ _ _ h4.set x (mB x.v x.d) (mB_t _ _) ho.v ho.d
      simp only [hitem] at cs
      obtain ⟨q, hq⟩ : ∃ q, putsL (mB x.v x.d) S.1 x = q := ⟨_, rfl⟩
      rw [hq] at cs
      have HQ := Lib.hid hq
      have H4 := Lib.hid h4
      have HIY := Lib.hid hiy
      clear c0 c1 c2 hy ho h4 hiy hq
      go_wp2_with fail
      refine Calls.mono cs ?_
      rintro e w5 ⟨rfl, sv', hs5, hk5⟩
      have H5 := Lib.hid (H4.out.put hs5 hk5)
      have y5 := HIY.out.step hk5
      clear d0 d1 d2 cs hs5 hk5
      obtain ⟨d0, d1, d2⟩ := held_at y5.at_
      have hw5 := H5.out.kept.size
      clear y5
      cases q
      · have hnx : lkS S x = (putL (mB x.v x.d) S.1 x, S.2) := by unfold lkS; rw [if_neg (by rw [HQ.out]; decide)]; rfl
        have HNX := Lib.hid hnx
        clear hnx
        go_wp2_with fail
        go_roundw
        case rel => exact ⟨j + 1, sv', by omega, by go_num, Lib.hid (by rw [HX.out, HNX.out]; exact H5.out)⟩
        case measure => simp [intOf]; omega
      · have hnx : lkS S x = (putL (mB x.v x.d) S.1 x, S.2 ++ [x]) := by unfold lkS; rw [if_pos HQ.out]; rfl
        have HNX := Lib.hid hnx
        clear hnx
        go_wp2_with (at_builtin; refine wp_appN Try.underlying41 hi hz0 hz1 hz2 rfl (by decide) rfl (.tmp 25) (.tmp 27) rfl w3.heap.size _ _ _ rfl (H5.out.own.alloc _) _ _ 1 (hCells [x]) rfl (good_lit x _) (by decide) ?c1 ?c2 ?c3 ?c4 ?_)
        case c1 => exact hCells_one _
        case c2 => unfold maxLen; show S.2.length + 1 ≤ _; omega
        case c3 => show (S.2.length + 1) * 32 ≤ _; omega
        case c4 => simp; omega
        intro v' w9 hown hgr hnw
        have H9 := Lib.hid (H5.out.app hown hgr (by simpa using hnw))
        clear hown hgr hnw
        go_wp2_with fail
        go_roundw
        case rel => exact ⟨j + 1, sv', by omega, by go_num, Lib.hid (by rw [HX.out, HNX.out]; exact H9.out)⟩
        case measure => simp [intOf]; omega
    · obtain rfl : j = A.length := by omega
      have HQ := HL.out
      rw [List.take_length] at HQ
      have HF := Lib.hid (HB3.out.trans HQ.kept.below)
      have HO := Lib.hid (own_mono HQ.own HB3.out.size)
      clear HQ
      go_wp2_with fail
      go_ret
      exact ⟨_, rfl, HO.out, HF.out⟩
end Go.Proofs.Ytnjklhmnkjejfaa
