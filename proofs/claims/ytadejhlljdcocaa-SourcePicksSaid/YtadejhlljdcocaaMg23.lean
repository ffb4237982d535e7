/-
  Several texts, laid together.
-/
import Derived.Test.YtadejhlljdcocaaMg17
import Derived.Test.YtadejhlljdcocaaMg19
import Derived.Test.YtadejhlljdcocaaMg22
/-
  ItemsMerge's walk.
-/

namespace Go.Proofs.Ytadejhlljdcocaa
open Go.RowKit
set_option linter.unusedVariables false
set_option linter.unusedSimpArgs false

end Go.Proofs.Ytadejhlljdcocaa
/-
  SourcePicks' law: what its own loop keeps.
-/


namespace Go.Proofs.Ytadejhlljdcocaa
open Go.RowKit
set_option linter.unusedVariables false
set_option linter.unusedSimpArgs false

/-- what may be told, in order -/
structure SOk (t : TD) : Prop where
  d0 : 0 ≤ t.d
  d3 : t.d ≤ 3
  sA : Srt t.A
  mA : AllM t.A
theorem d_range {x : Int} : 0 ≤ bits .and .i64 x 3 ∧ bits .and .i64 x 3 ≤ 3 := by
  have := mask_mod x 2 3 (by decide) (by decide)
  omega
theorem and2 {d : Int} (h0 : 0 ≤ d) (h3 : d ≤ 3) : bits .and .i64 d 2 ≠ 0 ↔ 2 ≤ d := by
  have : d = 0 ∨ d = 1 ∨ d = 2 ∨ d = 3 := by omega
  rcases this with rfl | rfl | rfl | rfl <;> decide
theorem and1 {d : Int} (h0 : 0 ≤ d) (h3 : d ≤ 3) : bits .and .i64 d 1 ≠ 0 ↔ d % 2 = 1 := by
  have : d = 0 ∨ d = 1 ∨ d = 2 ∨ d = 3 := by omega
  rcases this with rfl | rfl | rfl | rfl <;> decide
theorem ab_iff {E : Int} {t : TD} (h : SOk t) : isAb E t = (decide (2 ≤ t.d) && decide (t.e > E)) := by
  unfold isAb
  rw [decide_eq_decide.2 (and2 h.d0 h.d3)]
theorem in2_iff {E : Int} {t : TD} (h : SOk t) : isIn E 2 t = (decide (2 ≤ t.d) && decide (t.e = E)) := by
  unfold isIn
  rw [decide_eq_decide.2 (and2 h.d0 h.d3)]
theorem in1_iff {E : Int} {t : TD} (h : SOk t) : isIn E 1 t = (decide (t.d % 2 = 1) && decide (t.e = E)) := by
  unfold isIn
  rw [decide_eq_decide.2 (and1 h.d0 h.d3)]
/-- the place of the newest chain above -/
def BestR (E : Int) (us : List TD) (j : Nat) (B : Int) : Prop :=
  (B = -1 ∧ nfold E (us.take j) = (none, E)) ∨ ∃ (i : Nat) (t : TD), B = i ∧ us[i]? = some t ∧ nfold E (us.take j) = (some t, t.e) ∧ E < t.e
/-- the place of the first that does something -/
def FstR (p : TD → Bool) (us : List TD) (j : Nat) (B : Int) : Prop :=
  (B = -1 ∧ (us.take j).find? p = none) ∨ ∃ (i : Nat) (t : TD), B = i ∧ us[i]? = some t ∧ (us.take j).find? p = some t
theorem BestR.zero {E : Int} {us : List TD} : BestR E us 0 (-1) := .inl ⟨rfl, rfl⟩
theorem FstR.zero {p : TD → Bool} {us : List TD} : FstR p us 0 (-1) := .inl ⟨rfl, rfl⟩
theorem BestR.next {E : Int} {us : List TD} {j : Nat} {B : Int} {t : TD} (h : BestR E us j B) (ht : us[j]? = some t) :
    BestR E us (j + 1) (if isAb (nfold E (us.take j)).2 t then (j : Int) else B) := by
  unfold BestR
  rw [nfold_next ht]
  have hge : E ≤ (nfold E (us.take j)).2 := by
    rcases h with ⟨-, q⟩ | ⟨i, x, -, -, q, r⟩
    · rw [q]; exact Int.le_refl _
    · rw [q]; show E ≤ x.e; omega
  cases hp : isAb (nfold E (us.take j)).2 t
  · have e : nstep (nfold E (us.take j)) t = nfold E (us.take j) := by unfold nstep; rw [hp]; rfl
    rw [e]
    exact h
  · have e : nstep (nfold E (us.take j)) t = (some t, t.e) := by unfold nstep; rw [hp]; rfl
    rw [e]
    refine .inr ⟨j, t, rfl, ht, rfl, ?_⟩
    unfold isAb at hp
    simp only [Bool.and_eq_true, decide_eq_true_eq] at hp
    omega
theorem FstR.next {p : TD → Bool} {us : List TD} {j : Nat} {B : Int} {t : TD} (h : FstR p us j B) (ht : us[j]? = some t) :
    FstR p us (j + 1) (if p t && decide (B < 0) then (j : Int) else B) := by
  rcases h with ⟨rfl, h⟩ | ⟨i, x, rfl, hx, h⟩
  · rw [show decide ((-1 : Int) < 0) = true from rfl, Bool.and_true]
    unfold FstR
    rw [find_none h ht]
    cases hp : p t
    · exact .inl ⟨rfl, rfl⟩
    · exact .inr ⟨j, t, rfl, ht, rfl⟩
  · rw [show decide ((i : Int) < 0) = false from decide_eq_false (by omega), Bool.and_false]
    refine .inr ⟨i, x, rfl, hx, ?_⟩
    have : us.take (j + 1) = us.take j ++ [t] := by rw [List.take_add_one, ht]; rfl
    rw [this, List.find?_append, h]
    rfl
theorem nfold_none {E : Int} {us : List TD} {j : Nat} {B : Int} (h : BestR E us j B) : B < 0 → B = -1 ∧ (nfold E (us.take j)).2 = E := by
  rcases h with ⟨rfl, h⟩ | ⟨i, x, rfl, hx, h, -⟩
  · exact fun _ => ⟨rfl, by rw [h]⟩
  · exact fun q => by omega
/-- the law's own part of the world, in its second loop -/
structure SPR (w wx : World) (P Q : Nat) (vv : Value) (us : List TD) (cA : Array Value) : Prop where
  gat : Gat wx P vv us
  conf : wx.heap[Q]? = some (.cells cA 31)
  below : Below w.heap.size w wx
theorem SPR.go {w wx wy : World} {P Q : Nat} {vv : Value} {us : List TD} {cA : Array Value} (h : SPR w wx P Q vv us cA) (hb : Below wx.heap.size wx wy) : SPR w wy P Q vv us cA :=
  ⟨h.gat.go hb, below_at hb (lt_heap h.conf) h.conf, h.below.trans (hb.mono h.below.size)⟩
theorem SPR.drewN {w wx : World} {P Q : Nat} {vv : Value} {us : List TD} {cA : Array Value} (h : SPR w wx P Q vv us cA) (n : Nat) : SPR w (wx.drewN n) P Q vv us cA := h.go (below_drewN' (Below.refl _ _) n)
/-- what Pick gives, by the law's own numbers -/
theorem pick_best {E : Int} {M : Nat} {us : List TD} {t : TD} (hE : E ≠ 0) (hn : nfold E us = (some t, t.e)) : pickW E M us = some (putAll [] t.A) := by
  unfold pickW newT
  rw [if_neg hE, hn]
theorem pick_none {E : Int} {M : Nat} {us : List TD} (hE : E ≠ 0) (hn : nfold E us = (none, E)) (hc : us.find? (isIn E 2) = none ∨ (0 < M ∧ us.find? (isIn E 1) = none)) : pickW E M us = none := by
  unfold pickW newT firstT
  rw [if_neg hE, hn]
  rcases hc with hc | ⟨hM, hc⟩
  · rw [hc]
  · cases us.find? (isIn E 2) with
    | none => rfl
    | some t => simp [show ¬ M = 0 by omega, hc]
theorem pick_chain {E : Int} {us : List TD} {t : TD} (hE : E ≠ 0) (hn : nfold E us = (none, E)) (hc : us.find? (isIn E 2) = some t) : pickW E 0 us = some (putAll [] t.A) := by
  unfold pickW newT firstT
  rw [if_neg hE, hn, hc]
  rfl
theorem pick_both {E : Int} {M : Nat} {us : List TD} {t m : TD} (hE : E ≠ 0) (hM : 0 < M) (hn : nfold E us = (none, E)) (hc : us.find? (isIn E 2) = some t) (hm : us.find? (isIn E 1) = some m) : pickW E M us = some (putAll [] (t.A ++ m.D)) := by
  unfold pickW newT firstT
  rw [if_neg hE, hn, hc, hm]
  simp [show ¬ M = 0 by omega]
/-- what it gives may be -/
theorem pick_good {E : Int} {M : Nat} {us : List TD} {L : List HI} (h : ∀ t ∈ us, TOk t) (hp : pickW E M us = some L) : ∀ x ∈ L, Good x := by
  unfold pickW at hp
  split at hp
  · cases hp; simp
  · split at hp
    · next t ht =>
      cases hp
      exact (srt_putAll Srt.nil (h t (newT_mem ht)).A).all
    · split at hp
      · cases hp
      · next t ht =>
        split at hp
        · cases hp
          exact (srt_putAll Srt.nil (h t (firstT_mem ht)).A).all
        · split at hp
          · cases hp
          · next m hm =>
            cases hp
            refine (srt_putAll Srt.nil fun x hx => ?_).all
            rcases List.mem_append.1 hx with q | q
            · exact (h t (firstT_mem ht)).A x q
            · exact (h m (firstT_mem hm)).D x q
end Go.Proofs.Ytadejhlljdcocaa
/-
  SourcePicks' law.
-/


namespace Go.Proofs.Ytadejhlljdcocaa
open Go.RowKit
set_option linter.unusedVariables false
set_option linter.unusedSimpArgs false

set_option maxHeartbeats 6400000 in
set_option maxRecDepth 100000 in
theorem sourcepicks_law (c : Array Value) (a : Option Addr) (len cap : Nat) (ep : Int) (w : World) (hf0 : Fits w confSh c.toList) (hf1 : Fits w (.slice toldSh) [.slice a len cap]) (hep : (Lit.int .i64 ep).wf = true) :
    Calls Try.prog 8 #[.agg c, .slice a len cap, .int .i64 ep] w fun v w' => v = .returned (.bool true) ∧ Below w.heap.size w w' := by
  obtain ⟨i0, hi, hz0, hz1, hz2⟩ := info_told
  obtain ⟨e, b, k, m, n, M0, C0, rfl, hm, hc⟩ := fits_conf hf0
  obtain ⟨ts, hlen, hts, hrs⟩ := fits_told hf1
  obtain ⟨ma, mc, rfl, hmc, hmm⟩ := hm.form
  obtain ⟨ca, cc, rfl, hcc, hcm⟩ := hc.form
  unfold maxLen at hmm hcm
  have cn := fun w' (hb : Below w.heap.size w w') => near_any e b k 5 _ _ M0 C0 w' (hm.below hb) (hc.below hb)
  unfold confA at cn ⊢
  have HT := Lib.hid hts
  have HR := Lib.hid hrs
  have HL := Lib.hid hlen
  clear hf0 hf1 hts hrs hlen hm hc
  go_enter Try.func8, Try.ntmps8
  go_upto_region 1 with fail
  have hx := heap_alloc_self w (.cells #[.int .i64 e, .int .i64 b, .int .i64 k, .slice ma M0.length mc, .slice ca C0.length cc] 31)
  have hb := (Below.refl w.heap.size w).alloc (Nat.le_refl _) (.cells #[.int .i64 e, .int .i64 b, .int .i64 k, .slice ma M0.length mc, .slice ca C0.length cc] 31)
  generalize w.alloc (.cells #[.int .i64 e, .int .i64 b, .int .i64 k, .slice ma M0.length mc, .slice ca C0.length cc] 31) = w0 at *
  have c0 := scell hx 0 (v := .int .i64 e) rfl
  have c1 := scell hx 1 (v := .int .i64 b) rfl
  have c2 := scell hx 2 (v := .int .i64 k) rfl
  have c3 := scell hx 3 (v := .slice ma M0.length mc) rfl
  have c4 := scell hx 4 (v := .slice ca C0.length cc) rfl
  have cn' := cn w0 hb
  have HX := Lib.hid (And.intro hx hb)
  clear cn hx hb
  go_wp2_with fail
  refine Calls.mono cn' ?_
  rintro ev w1 ⟨v1, v2, rfl, s1, s2, hb1⟩
  unfold confA
  obtain ⟨a1, p1, rfl, hp1, hq1⟩ := s1.form
  obtain ⟨a2, p2, rfl, hp2, hq2⟩ := s2.form
  generalize nearE e 5 = E at *
  generalize nearB b 5 = G at *
  generalize nearK k 5 = K at *
  generalize nearM b 5 M0 C0 = M at *
  generalize nearC b 5 M0 C0 = C at *
  obtain ⟨nM, hnM⟩ : ∃ x, M.length = x := ⟨_, rfl⟩
  obtain ⟨nC, hnC⟩ : ∃ x, C.length = x := ⟨_, rfl⟩
  rw [hnM] at hp1
  rw [hnC] at hp2
  rw [hnM, hnC]
  clear cn' s1 s2 c0 c1 c2 c3 c4
  obtain ⟨hx, hb⟩ := HX.out
  have hbA := hb1.alloc hb1.size (.cells #[] 83)
  have hbB := hbA.alloc hbA.size (.cells #[.int .i64 E, .int .i64 G, .int .i64 K, .slice a1 nM p1, .slice a2 nC p2] 31)
  have hQ := heap_alloc_self (w1.alloc (.cells #[] 83)) (.cells #[.int .i64 E, .int .i64 G, .int .i64 K, .slice a1 nM p1, .slice a2 nC p2] 31)
  rw [show (w1.alloc (.cells #[] 83)).heap.size = w1.heap.size + 1 by simp] at hQ
  have hw0 : (w1.alloc (.cells #[] 83)).ownsRow w1.heap.size 83 4 (.slice (some ⟨w1.heap.size, 0, none⟩) 0 0) 0 [] := World.ownsRow_lit (base := w1.heap.size) w1 #[] 0 (Nat.le_refl _) (by decide) rfl
  have hown := hw0.alloc (.cells #[.int .i64 E, .int .i64 G, .int .i64 K, .slice a1 nM p1, .slice a2 nC p2] 31)
  have hlx := lt_heap hx
  have hsz := hb1.size
  go_upto_region 2 with fail
  generalize (w1.alloc (.cells #[] 83)).alloc (.cells #[.int .i64 E, .int .i64 G, .int .i64 K, .slice a1 nM p1, .slice a2 nC p2] 31) = W1 at *
  have q0 := scell hQ 0 (v := .int .i64 E) rfl
  have fq := sfrz hQ
  have HB1 := Lib.hid (hb.trans (hbB.mono hb.size))
  have hb2 := HB1.out.setCell (p := ⟨w1.heap.size + 1, 0, none⟩) (by show w.heap.size ≤ w1.heap.size + 1; omega) (.int .i64 (bits .and .i64 ep 3))
  have hQ2 := heap_set_self hQ 0 (.int .i64 (bits .and .i64 ep 3))
  have hG := Lib.hid (show Gat (W1.setCell ⟨w1.heap.size + 1, 0, none⟩ (.int .i64 (bits .and .i64 ep 3))) w1.heap.size (.slice (some ⟨w1.heap.size, 0, none⟩) 0 0) [] from ⟨own_set hown (fun b hbb => by simp [Value.ownBlock] at hbb; show b ≠ w1.heap.size + 1; omega), by simp, by simp⟩)
  have HQ2 := Lib.hid (And.intro hQ2 hb2)
  obtain ⟨E3, hE3⟩ : ∃ E3, bits .and .i64 ep 3 = E3 := ⟨_, rfl⟩
  clear hQ2 hb2 hown hw0 hbA hbB hQ hb hx
  go_upto_block 0 with fail
  rw [hE3] at hG HQ2
  go_cut [8, 9] from 25 to 42 (fun vv iv wx => ∃ us : List TD, us.length ≤ 5 ∧ Hid (SPR w wx w1.heap.size (w1.heap.size + 1) vv us #[.int .i64 E3, .int .i64 G, .int .i64 K, .slice a1 nM p1, .slice a2 nC p2]) ∧ Hid (∀ u ∈ us, SOk u))
  case first =>
    go_wp2_with fail
    go_loopw [8, 9] (fun vv i wr => ∃ (j : Nat) (us : List TD), j ≤ ts.length ∧ j ≤ 5 ∧ i = .int .i64 j ∧ us.length = j ∧ Hid (Gat wr w1.heap.size vv us) ∧ Hid (wr.heap[w1.heap.size + 1]? = some (.cells #[.int .i64 E3, .int .i64 G, .int .i64 K, .slice a1 nM p1, .slice a2 nC p2] 31) ∧ Below w.heap.size w wr) ∧ Hid (∀ u ∈ us, SOk u)) (fun _ i _ => 5 - (intOf i).toNat)
    case atStart => exact ⟨0, [], Nat.zero_le _, by decide, rfl, rfl, hG, HQ2, Lib.hid (by simp)⟩
    case round =>
      obtain ⟨j, us, hj, hj4, rfl, hus, HG, HQ, HS0⟩ := hrel
      by_cases hlt : j < ts.length ∧ j < 5
      · obtain ⟨hl1, hl2⟩ := hlt
        obtain ⟨t, ht⟩ : ∃ t, ts[j]? = some t := ⟨_, List.getElem?_eq_getElem hl1⟩
        have htm := List.mem_of_getElem? ht
        have htd := HT.out.go HQ.out.2
        obtain ⟨hle, b1, off, rfl, k0, k1, k2, k3⟩ := htd.cell j t ht
        obtain ⟨⟨bD, dD, fD⟩, ⟨bA, dA, fA⟩⟩ := TD.forms (htd.2 t htm)
        rw [fD] at k2
        rw [fA] at k3
        have cnr := near30t t ⟨(HR.out t htm).1, (HR.out t htm).2⟩ wr (htd.2 t htm)
        rw [show t.cells = #[.int .i64 t.e, .int .i64 t.d, .slice bD t.D.length dD, .slice bA t.A.length dA] by unfold TD.cells; rw [fD, fA]] at cnr
        have hj5 : j < len := by rw [hle]; exact hl1
        clear htd htm ht fD fA hle
        go_wp2_with fail
        refine Calls.mono cnr ?_
        rintro ev w2 ⟨u, rfl, hu, hok, hb2, hap, hue, hud, -, -, hsA, hmA⟩
        obtain ⟨⟨gD, qD, xD⟩, ⟨gA, qA, xA⟩⟩ := TD.forms hu
        have hcu : u.cells = #[.int .i64 u.e, .int .i64 u.d, .slice gD u.D.length qD, .slice gA u.A.length qA] := by unfold TD.cells; rw [xD, xA]
        have HSU := Lib.hid (show SOk u from ⟨by rw [hud]; exact d_range.1, by rw [hud]; exact d_range.2, hsA, hmA⟩)
        have hlit := told_lit u w2
        have hap2 := hap _ (fun g e => (HG.out.lt g e).2)
        rw [hcu] at hlit
        rw [hcu]
        have HG2 := Lib.hid (HG.out.go hb2)
        have HU := Lib.hid (And.intro hu (And.intro hok (And.intro hap2 (HQ.out.2.trans (hb2.mono HQ.out.2.size)))))
        have HQ1 := Lib.hid (below_at hb2 (lt_heap HQ.out.1) HQ.out.1)
        have HS := Lib.hid hb2.size
        clear cnr k0 k1 k2 k3 hu hok hb2 hap hap2 xD xA hue hud hsA hmA
        have hjl : us.length = j := hus
        go_wp2_with (at_builtin; refine wp_appN Try.underlying79 hi hz0 hz1 hz2 rfl (by decide) rfl (.tmp 35) (.tmp 41) rfl w1.heap.size _ _ _ rfl (HG2.out.row.alloc _) _ _ 1 (tCells [u]) rfl hlit (by decide) ?c1 ?c2 ?c3 ?c4 ?_)
        case c1 => exact tCells_one (by intro z hz; rw [List.mem_singleton.1 hz]; exact HU.out.1)
        case c2 => unfold maxLen; omega
        case c3 => omega
        case c4 => have := lt_heap HQ1.out; simp; omega
        intro v' w3 hown hgr hnw
        have G3 := Lib.hid (HG2.out.one HU.out.1 HU.out.2.1 HU.out.2.2.1 (by rw [hjl]; exact hown) hgr hnw)
        have L3 := grown_lit HG2.out hgr HU.out.2.2.2 (by omega) HU.out.2.2.2.size
        have HQ3 := Lib.hid (And.intro ((L3.2 _ (lt_heap HQ1.out) (HG2.out.ne HQ1.out (by decide))).trans HQ1.out) L3.1)
        clear hown hgr hnw L3 hlit
        go_wp2_with fail
        go_roundw
        case rel =>
          refine ⟨j + 1, us ++ [u], by omega, by omega, by go_num, by simp [hus], G3, HQ3, Lib.hid fun x hx => ?_⟩
          rcases List.mem_append.1 hx with q | q
          · exact HS0.out x q
          · rw [List.mem_singleton.1 q]; exact HSU.out
        case measure => simp [intOf]; omega
      · have hfin : j = ts.length ∨ (j = 5 ∧ 5 < ts.length) := by omega
        have hlen2 : ts.length = len := HL.out
        rw [hlen2] at hj hfin
        clear hG HQ2 hlt hlen2
        rcases hfin with rfl | ⟨rfl, h4l⟩
        all_goals
          go_wp2_with fail
          go_meet
          exact ⟨us, by omega, Lib.hid ⟨HG.out, HQ.out.1, HQ.out.2⟩, HS0⟩
  case rest =>
    obtain ⟨us, hul, HSP, HSO⟩ := hcut
    clear hG HQ2
    obtain ⟨W0, hW0⟩ : ∃ W0, W0 = wc := ⟨_, rfl⟩
    subst hW0
    have hto := HSP.out.gat.tds
    obtain ⟨av, pv, hvv, hpv, hpm⟩ := hto.1.form
    subst hvv
    unfold maxLen at hpm
    have cP := spick E3 G K a1 a2 nM p1 nC p2 us HSP.out.gat.ok W0 _ hto
    have hQr := HSP.out.conf
    have q0 := scell hQr 0 (v := .int .i64 E3) rfl
    have q1 := scell hQr 1 (v := .int .i64 G) rfl
    have q2 := scell hQr 2 (v := .int .i64 K) rfl
    have q3 := scell hQr 3 (v := .slice a1 nM p1) rfl
    have q4 := scell hQr 4 (v := .slice a2 nC p2) rfl
    clear hQr hto
    go_wp2_with fail
    refine Calls.mono cP ?_
    rintro e w4 ⟨v4, rfl, hs4, hb4⟩
    obtain ⟨a4, c4, rfl, -, -⟩ := hs4.form
    have HW4 := Lib.hid (And.intro (HSP.out.go hb4) hs4)
    obtain ⟨o, ho⟩ : ∃ o, pickW E3 nM us = o := ⟨_, rfl⟩
    rw [ho] at HW4 ⊢
    obtain ⟨P, hP⟩ : ∃ P, o.isSome = P := ⟨_, rfl⟩
    rw [hP]
    obtain ⟨L, hL⟩ : ∃ L, o.getD [] = L := ⟨_, rfl⟩
    rw [hL] at HW4 ⊢
    obtain ⟨n4, hn4⟩ : ∃ n, L.length = n := ⟨_, rfl⟩
    rw [hn4] at HW4 ⊢
    have HO := Lib.hid (And.intro ho (And.intro hP (And.intro hL hn4)))
    clear ho hP hL hn4 cP hs4 hb4 HSP q0 q1 q2 q3 q4
    go_upto_block 2 with fail
    go_cut [12, 13, 14] from 49 to 114 (fun bv cv mv wx => ∃ (B C D : Int), bv = .int .i64 B ∧ cv = .int .i64 C ∧ mv = .int .i64 D ∧ Hid (BestR E3 us us.length B ∧ FstR (isIn E3 2) us us.length C ∧ FstR (isIn E3 1) us us.length D) ∧ Hid (SPR w wx w1.heap.size (w1.heap.size + 1) (.slice av us.length pv) us #[.int .i64 E3, .int .i64 G, .int .i64 K, .slice a1 nM p1, .slice a2 nC p2] ∧ SR wx (.slice a4 n4 c4) 3 n4 (hCells L)))
    case first =>
      go_wp2_with fail
      go_loopw [12, 13, 14, 15] (fun bv cv mv iv wx => ∃ (j : Nat) (B C D : Int), j ≤ us.length ∧ bv = .int .i64 B ∧ cv = .int .i64 C ∧ mv = .int .i64 D ∧ iv = .int .i64 j ∧ Hid (BestR E3 us j B ∧ FstR (isIn E3 2) us j C ∧ FstR (isIn E3 1) us j D) ∧ Hid (SPR w wx w1.heap.size (w1.heap.size + 1) (.slice av us.length pv) us #[.int .i64 E3, .int .i64 G, .int .i64 K, .slice a1 nM p1, .slice a2 nC p2] ∧ SR wx (.slice a4 n4 c4) 3 n4 (hCells L))) (fun _ _ _ iv _ => us.length - (intOf iv).toNat)
      case atStart => exact ⟨0, -1, -1, -1, Nat.zero_le _, rfl, rfl, rfl, rfl, Lib.hid ⟨BestR.zero, FstR.zero, FstR.zero⟩, HW4⟩
      case round =>
        obtain ⟨j, B, C, D, hj, rfl, rfl, rfl, rfl, HF, HW⟩ := hrel
        by_cases hlt : j < us.length
        · obtain ⟨t, ht⟩ : ∃ t, us[j]? = some t := ⟨_, List.getElem?_eq_getElem hlt⟩
          have htm := List.mem_of_getElem? ht
          have HTO := Lib.hid (HSO.out t htm)
          have htd := HW.out.1.gat.tds
          obtain ⟨-, b1, off, rfl, k0, k1, k2, k3⟩ := htd.cell j t ht
          obtain ⟨⟨bD, dD, fD⟩, ⟨bA, dA, fA⟩⟩ := TD.forms (htd.2 t htm)
          rw [fD] at k2
          rw [fA] at k3
          have hb5 := (Below.refl wr.heap.size wr).alloc (Nat.le_refl _) (.cells #[.int .i64 t.e, .int .i64 t.d, .slice bD t.D.length dD, .slice bA t.A.length dA] 83)
          have hy := heap_alloc_self wr (.cells #[.int .i64 t.e, .int .i64 t.d, .slice bD t.D.length dD, .slice bA t.A.length dA] 83)
          have HW5 := Lib.hid (And.intro (HW.out.1.go hb5) (And.intro (HW.out.2.below hb5) hy))
          clear htd fD fA htm hb5 hy
          go_upto_region 13 with fail
          generalize wr.alloc (.cells #[.int .i64 t.e, .int .i64 t.d, .slice bD t.D.length dD, .slice bA t.A.length dA] 83) = w5 at *
          obtain ⟨q, hq⟩ : ∃ q, wr.heap.size = q := ⟨_, rfl⟩
          rw [hq] at HW5
          simp only [hq]
          clear hq k0 k1 k2 k3 HW
          have HT := Lib.hid ht
          clear ht
          have y0 := scell HW5.out.2.2 0 (v := .int .i64 t.e) rfl
          have y1 := scell HW5.out.2.2 1 (v := .int .i64 t.d) rfl
          have q0 := scell HW5.out.1.conf 0 (v := .int .i64 E3) rfl
          obtain ⟨te, hte⟩ : ∃ te, t.e = te := ⟨_, rfl⟩
          obtain ⟨td, htd⟩ : ∃ td, t.d = td := ⟨_, rfl⟩
          rw [hte] at y0
          rw [htd] at y1
          obtain ⟨p1b, hp1⟩ : ∃ p, isAb (nfold E3 (us.take j)).2 t = p := ⟨_, rfl⟩
          obtain ⟨p2b, hp2⟩ : ∃ p, isIn E3 2 t = p := ⟨_, rfl⟩
          obtain ⟨p3b, hp3⟩ : ∃ p, isIn E3 1 t = p := ⟨_, rfl⟩
          have HP := Lib.hid (And.intro hp1 (And.intro hp2 hp3))
          have HE := Lib.hid (And.intro hte htd)
          have hd0 : 0 ≤ td := by rw [← htd]; exact HTO.out.d0
          have hd3 : td ≤ 3 := by rw [← htd]; exact HTO.out.d3
          clear hp1 hp2 hp3 hte htd
          go_cut [82] (fun s wx => ∃ m : Nat, s = .bool p1b ∧ wx = w5.drewN m)
          case first =>
            have hv := HP.out.1
            rw [ab_iff HTO.out, HE.out.1, HE.out.2] at hv
            by_cases g2 : 2 ≤ td
            · have g2' : decide (2 ≤ td) = true := decide_eq_true g2
              rw [g2', Bool.true_and] at hv
              by_cases ge : E3 < te
              · have ge' : decide (E3 < te) = true := decide_eq_true ge
                rcases HF.out.1 with ⟨rfl, hn⟩ | ⟨i, x, rfl, hx, hn, hxe⟩
                · rw [hn] at hv
                  have hv2 : p1b = true := by rw [← hv]; exact ge'
                  subst hv2
                  clear hv hn
                  go_quiet (fail)
                  go_wp2_with fail
                  go_meet
                  exact ⟨_, rfl, rfl⟩
                · rw [hn] at hv
                  obtain ⟨-, b2, off2, he, k0, -, -, -⟩ := HW5.out.1.gat.tds.cell i x hx
                  cases he
                  have hil : i < us.length := (List.getElem?_eq_some_iff.1 hx).1
                  obtain ⟨xe, hxx⟩ : ∃ xe, x.e = xe := ⟨_, rfl⟩
                  have hv : decide (xe < te) = p1b := by rw [← hv, ← hxx]
                  rw [hxx] at k0
                  have hi0 : decide ((i : Int) < 0) = false := decide_eq_false (by omega)
                  have hi1 : ¬ (i : Int) < 0 := by omega
                  have hi2 : (i : Int) < us.length := by omega
                  have HX := Lib.hid (And.intro hx (And.intro hn (And.intro hxx hxe)))
                  clear hx hn hxx hxe
                  by_cases gx : xe < te
                  · have gx' : decide (xe < te) = true := decide_eq_true gx
                    rw [gx'] at hv
                    subst hv
                    go_quiet (fail)
                    go_wp2_with fail
                    go_meet
                    exact ⟨_, rfl, rfl⟩
                  · have gx' : decide (xe < te) = false := decide_eq_false gx
                    rw [gx'] at hv
                    subst hv
                    go_quiet (fail)
                    go_wp2_with fail
                    go_meet
                    exact ⟨_, rfl, rfl⟩
              · have ge' : decide (E3 < te) = false := decide_eq_false ge
                have hv2 : p1b = false := by
                  rw [← hv]
                  rcases HF.out.1 with ⟨-, hn⟩ | ⟨i, x, -, hx, hn, hxe⟩
                  · rw [hn]; exact ge'
                  · rw [hn]; exact decide_eq_false (fun q => ge (Int.lt_trans hxe q))
                subst hv2
                clear hv
                go_quiet (fail)
                go_wp2_with fail
                go_meet
                exact ⟨_, rfl, rfl⟩
            · have g2' : decide (2 ≤ td) = false := decide_eq_false g2
              rw [g2', Bool.false_and] at hv
              subst hv
              go_quiet (fail)
              go_wp2_with fail
              go_meet
              exact ⟨_, rfl, rfl⟩
          case rest =>
            obtain ⟨m1, rfl, rfl⟩ := hcut
            have HW6 := Lib.hid (And.intro (HW5.out.1.drewN m1) (And.intro (HW5.out.2.1.below (below_drewN' (Below.refl _ _) m1)) (show (w5.drewN m1).heap[q]? = _ from HW5.out.2.2)))
            clear HW5 y0 y1 q0
            generalize w5.drewN m1 = w6 at *
            have y0 := scell HW6.out.2.2 0 (v := .int .i64 t.e) rfl
            have y1 := scell HW6.out.2.2 1 (v := .int .i64 t.d) rfl
            have q0 := scell HW6.out.1.conf 0 (v := .int .i64 E3) rfl
            rw [HE.out.1] at y0
            rw [HE.out.2] at y1
            go_upto_if 82 with fail
            go_cut [12] (fun bv wx => bv = .int .i64 (if p1b then (j : Int) else B) ∧ wx = w6)
            case first => cases p1b <;> (go_wp2_with fail; go_meet; exact ⟨rfl, rfl⟩)
            case rest =>
              obtain ⟨rfl, rfl⟩ := hcut
              have HB := Lib.hid (show BestR E3 us (j + 1) (if p1b then (j : Int) else B) by rw [← HP.out.1]; exact HF.out.1.next HT.out)
              generalize (if p1b then (j : Int) else B) = B' at *
              obtain ⟨W6, hW6⟩ : ∃ W, W = wc := ⟨_, rfl⟩
              subst hW6
              go_upto_region 15 with fail
              go_cut [97] (fun s wx => s = .bool (p2b && decide (C < 0)) ∧ wx = W6)
              case first =>
                have hv := HP.out.2.1
                rw [in2_iff HTO.out, HE.out.1, HE.out.2] at hv
                by_cases g2 : 2 ≤ td
                · have g2' : decide (2 ≤ td) = true := decide_eq_true g2
                  rw [g2', Bool.true_and] at hv
                  by_cases ge : te = E3
                  · have ge' : (te == E3) = true := beq_iff_eq.2 ge
                    have hv2 : p2b = true := by rw [← hv]; exact decide_eq_true ge
                    have HGE := Lib.hid ge
                    subst hv2
                    clear hv ge
                    rcases HF.out.2.1 with ⟨rfl, hn⟩ | ⟨i, x, rfl, hx, hn⟩
                    · clear hn
                      go_wp2_with fail
                      go_meet
                      exact ⟨rfl, rfl⟩
                    · have hi0 : decide ((i : Int) < 0) = false := decide_eq_false (by omega)
                      have hi1 : ¬ (i : Int) < 0 := by omega
                      clear hx hn
                      go_wp2_with fail
                      go_meet
                      exact ⟨by rw [hi0]; rfl, rfl⟩
                  · have ge' : (te == E3) = false := beq_eq_false_iff_ne.2 ge
                    have hv2 : p2b = false := by rw [← hv]; exact decide_eq_false ge
                    subst hv2
                    clear hv
                    go_wp2_with fail
                    go_meet
                    exact ⟨rfl, rfl⟩
                · have g2' : decide (2 ≤ td) = false := decide_eq_false g2
                  rw [g2', Bool.false_and] at hv
                  subst hv
                  go_wp2_with fail
                  go_meet
                  exact ⟨rfl, rfl⟩
              case rest =>
                obtain ⟨rfl, hw7⟩ := hcut
                obtain ⟨w7, hw7e⟩ : ∃ W, W = wc := ⟨_, rfl⟩
                subst hw7e
                subst hw7
                have HW7 := HW6
                clear HW6 y0 y1 q0
                have y0 := scell HW7.out.2.2 0 (v := .int .i64 t.e) rfl
                have y1 := scell HW7.out.2.2 1 (v := .int .i64 t.d) rfl
                have q0 := scell HW7.out.1.conf 0 (v := .int .i64 E3) rfl
                rw [HE.out.1] at y0
                rw [HE.out.2] at y1
                obtain ⟨z2, hz2b⟩ : ∃ z, (p2b && decide (C < 0)) = z := ⟨_, rfl⟩
                rw [hz2b]
                go_upto_if 97 with fail
                go_cut [13] (fun bv wx => bv = .int .i64 (if z2 then (j : Int) else C) ∧ wx = w7)
                case first => cases z2 <;> (go_wp2_with fail; go_meet; exact ⟨rfl, rfl⟩)
                case rest =>
                  obtain ⟨rfl, rfl⟩ := hcut
                  have HC' := Lib.hid (show FstR (isIn E3 2) us (j + 1) (if z2 then (j : Int) else C) by rw [← hz2b, ← HP.out.2.1]; exact HF.out.2.1.next HT.out)
                  clear hz2b
                  generalize (if z2 then (j : Int) else C) = C' at *
                  obtain ⟨W7, hW7⟩ : ∃ W, W = wc := ⟨_, rfl⟩
                  subst hW7
                  go_upto_region 17 with fail
                  go_cut [113] (fun s wx => s = .bool (p3b && decide (D < 0)) ∧ wx = W7)
                  case first =>
                    have hv := HP.out.2.2
                    rw [in1_iff HTO.out, HE.out.1, HE.out.2] at hv
                    by_cases ge : te = E3
                    · have ge' : (te == E3) = true := beq_iff_eq.2 ge
                      rw [decide_eq_true ge, Bool.and_true] at hv
                      have HGE := Lib.hid ge
                      have HHV := Lib.hid hv
                      clear ge hv
                      rcases HF.out.2.2 with ⟨rfl, hn⟩ | ⟨i, x, rfl, hx, hn⟩
                      · clear hn
                        have h4 : td = 0 ∨ td = 1 ∨ td = 2 ∨ td = 3 := by omega
                        rcases h4 with rfl | rfl | rfl | rfl
                        all_goals
                          go_wp2_with fail
                          go_meet
                          exact ⟨by rw [← HHV.out]; rfl, rfl⟩
                      · have hi0 : decide ((i : Int) < 0) = false := decide_eq_false (by omega)
                        have hi1 : ¬ (i : Int) < 0 := by omega
                        clear hx hn
                        have h4 : td = 0 ∨ td = 1 ∨ td = 2 ∨ td = 3 := by omega
                        rcases h4 with rfl | rfl | rfl | rfl
                        all_goals
                          go_wp2_with fail
                          go_meet
                          exact ⟨by rw [hi0, Bool.and_false], rfl⟩
                    · have ge' : (te == E3) = false := beq_eq_false_iff_ne.2 ge
                      rw [decide_eq_false ge, Bool.and_false] at hv
                      subst hv
                      have h4 : td = 0 ∨ td = 1 ∨ td = 2 ∨ td = 3 := by omega
                      rcases h4 with rfl | rfl | rfl | rfl
                      all_goals
                        go_wp2_with fail
                        go_meet
                        exact ⟨rfl, rfl⟩
                  case rest =>
                    obtain ⟨rfl, hw8⟩ := hcut
                    obtain ⟨w8, hw8e⟩ : ∃ W, W = wc := ⟨_, rfl⟩
                    subst hw8e
                    subst hw8
                    have HW8 := Lib.hid (And.intro HW7.out.1 HW7.out.2.1)
                    clear HW7 y0 y1 q0
                    obtain ⟨z3, hz3b⟩ : ∃ z, (p3b && decide (D < 0)) = z := ⟨_, rfl⟩
                    rw [hz3b]
                    have HD' := Lib.hid (show FstR (isIn E3 1) us (j + 1) (if z3 then (j : Int) else D) by rw [← hz3b, ← HP.out.2.2]; exact HF.out.2.2.next HT.out)
                    clear hz3b
                    cases z3
                    all_goals
                      go_wp2_with fail
                      go_roundw
                      case rel => exact ⟨j + 1, B', C', _, by omega, rfl, rfl, rfl, by go_num, Lib.hid ⟨HB.out, HC'.out, HD'.out⟩, HW8⟩
                      case measure => simp [intOf]; omega
        · obtain rfl : j = us.length := by omega
          go_wp2_with fail
          go_meet
          exact ⟨B, C, D, rfl, rfl, rfl, HF, HW⟩
    case rest =>
      obtain ⟨B, C, D, rfl, rfl, rfl, HF, HW⟩ := hcut
      obtain ⟨W8, hW8⟩ : ∃ W, W = wc := ⟨_, rfl⟩
      subst hW8
      clear HW4
      unfold BestR FstR at HF
      rw [List.take_length] at HF
      have hsome : ∀ L', pickW E3 nM us = some L' → P = true ∧ L = L' ∧ L'.length = n4 := fun L' h => by
        obtain ⟨h1, h2, h3, h4⟩ := HO.out
        rw [h] at h1
        subst h1
        exact ⟨h2.symm, h3.symm, by rw [← h4, ← h3]; rfl⟩
      have hnone : pickW E3 nM us = none → P = false ∧ L = [] ∧ n4 = 0 := fun h => by
        obtain ⟨h1, h2, h3, h4⟩ := HO.out
        rw [h] at h1
        subst h1
        exact ⟨h2.symm, h3.symm, by rw [← h4, ← h3]; rfl⟩
      have HG := Lib.hid (show ∀ x ∈ L, Good x from by
        cases ho : pickW E3 nM us with
        | none => rw [(hnone ho).2.1]; simp
        | some L' => rw [(hsome L' ho).2.1]; exact pick_good HW.out.1.gat.ok ho)
      have HLN := Lib.hid HO.out.2.2.2
      have hb9 := (Below.refl W8.heap.size W8).alloc (Nat.le_refl _) (.cells #[] 125)
      have HW9 := Lib.hid (And.intro (HW.out.1.go hb9) (HW.out.2.below hb9))
      clear hb9 HO
      go_upto_block 4 with fail
      generalize W8.alloc (.cells #[] 125) = w9 at *
      obtain ⟨q9, hq9⟩ : ∃ q, W8.heap.size = q := ⟨_, rfl⟩
      simp only [hq9]
      clear hq9 HW
      have q0 := scell HW9.out.1.conf 0 (v := .int .i64 E3) rfl
      have q3 := scell HW9.out.1.conf 3 (v := .slice a1 nM p1) rfl
      go_cut [17, 18] from 127 to 161 (fun wv is wx => ∃ aw cw, is = .bool P ∧ wv = .slice aw n4 cw ∧ Hid (SPR w wx w1.heap.size (w1.heap.size + 1) (.slice av us.length pv) us #[.int .i64 E3, .int .i64 G, .int .i64 K, .slice a1 nM p1, .slice a2 nC p2] ∧ SR wx (.slice a4 n4 c4) 3 n4 (hCells L) ∧ SR wx (.slice aw n4 cw) 3 n4 (hCells L)))
      case first =>
        by_cases hE : E3 = 0
        · obtain ⟨hp, hl, hn⟩ := hsome [] (by unfold pickW; rw [if_pos hE])
          have hn : n4 = 0 := hn.symm
          subst hp hl hn hE
          clear hsome hnone
          go_wp2_with fail
          go_meet
          exact ⟨_, _, rfl, rfl, Lib.hid ⟨HW9.out.1, HW9.out.2, ⟨_, _, rfl, Nat.le_refl _, by decide, rfl, .inl rfl⟩⟩⟩
        · have hE' : (E3 == 0) = false := beq_eq_false_iff_ne.2 hE
          rcases HF.out.1 with ⟨rfl, hn⟩ | ⟨i, x, rfl, hx, hn, hxe⟩
          · rcases HF.out.2.1 with ⟨rfl, hc⟩ | ⟨i, x, rfl, hx, hc⟩
            · obtain ⟨hp, hl, hz⟩ := hnone (pick_none hE hn (.inl hc))
              subst hp hl hz
              clear hsome hnone hE hn hc
              go_wp2_with fail
              go_meet
              exact ⟨_, _, rfl, rfl, Lib.hid ⟨HW9.out.1, HW9.out.2, ⟨_, _, rfl, Nat.le_refl _, by decide, rfl, .inl rfl⟩⟩⟩
            · have hto := HW9.out.1.gat.tds
              obtain ⟨-, b1, off, rfl, -, -, -, k3⟩ := hto.cell i x hx
              obtain ⟨-, ⟨bA, dA, fA⟩⟩ := TD.forms (hto.2 x (List.mem_of_getElem? hx))
              have hsx := (hto.2 x (List.mem_of_getElem? hx)).2
              rw [fA] at k3 hsx
              have hil : i < us.length := (List.getElem?_eq_some_iff.1 hx).1
              have hi0 : decide ((i : Int) < 0) = false := decide_eq_false (by omega)
              have hi1 : ¬ (i : Int) < 0 := by omega
              have hi2 : (i : Int) < us.length := by omega
              rcases Nat.eq_zero_or_pos nM with hM | hM
              · subst hM
                obtain ⟨hp, hl, hz⟩ := hsome x.A (by rw [pick_chain hE hn hc, of_self (HSO.out x (List.mem_of_getElem? hx)).sA (HSO.out x (List.mem_of_getElem? hx)).mA])
                rw [hz] at k3
                have HRS := Lib.hid (show SR w9 (.slice bA n4 dA) 3 n4 (hCells L) from by rw [hz, ← hl] at hsx; exact hsx)
                subst hp
                clear hsome hnone hl hz fA hx hn hto hc hsx
                go_wp2_with fail
                go_meet
                exact ⟨_, _, rfl, rfl, Lib.hid ⟨HW9.out.1, HW9.out.2, HRS.out⟩⟩
              · have hM0 : decide ((nM : Int) > 0) = true := decide_eq_true (by omega)
                have hM1 : (0 : Int) < nM := by omega
                have hM2 : ((nM : Int) == 0) = false := beq_eq_false_iff_ne.2 (by omega)
                rcases HF.out.2.2 with ⟨rfl, hm⟩ | ⟨k, y, rfl, hy, hm⟩
                · obtain ⟨hp, hl, hz⟩ := hnone (pick_none hE hn (.inr ⟨hM, hm⟩))
                  subst hp hl hz
                  clear hsome hnone hn hc hm hto hsx k3
                  go_wp2_with fail
                  go_meet
                  exact ⟨_, _, rfl, rfl, Lib.hid ⟨HW9.out.1, HW9.out.2, ⟨_, _, rfl, Nat.le_refl _, by decide, rfl, .inl rfl⟩⟩⟩
                · obtain ⟨hp, hl, hz⟩ := hsome _ (pick_both hE hM hn hc hm)
                  obtain ⟨-, b3, off3, he, -, -, j2, -⟩ := hto.cell k y hy
                  cases he
                  obtain ⟨⟨bD, dD, fD⟩, -⟩ := TD.forms (hto.2 y (List.mem_of_getElem? hy))
                  have hsy := (hto.2 y (List.mem_of_getElem? hy)).1
                  rw [fD] at j2 hsy
                  have hkl : k < us.length := (List.getElem?_eq_some_iff.1 hy).1
                  have hk0 : decide ((k : Int) < 0) = false := decide_eq_false (by omega)
                  have hk1 : ¬ (k : Int) < 0 := by omega
                  have hk2 : (k : Int) < us.length := by omega
                  have ok1 := HW9.out.1.gat.ok x (List.mem_of_getElem? hx)
                  have ok2 := HW9.out.1.gat.ok y (List.mem_of_getElem? hy)
                  have cm := fun w' (hb : Below w9.heap.size w9 w') => rmerge x.A y.D ok1.A ok2.D w' _ _ (hsx.below hb) (hsy.below hb) (by have := ok1.la; have := ok2.ld; omega)
                  obtain ⟨lx, hlx2⟩ : ∃ l, x.A.length = l := ⟨_, rfl⟩
                  obtain ⟨ly, hly2⟩ : ∃ l, y.D.length = l := ⟨_, rfl⟩
                  rw [hlx2] at k3 cm
                  rw [hly2] at j2 cm
                  rw [hz, ← hl] at cm
                  subst hp
                  clear hsome hnone hl hz fA fD hx hy hn hto hc hm hsx hsy ok1 ok2 hlx2 hly2
                  have hbl : b1 < w9.heap.size := (HW9.out.1.gat.lt b1 rfl).2
                  obtain ⟨N, hN⟩ : ∃ N, w9.heap.size = N := ⟨_, rfl⟩
                  rw [hN] at hbl cm
                  have cm2 : ∀ w', N ≤ w'.heap.size ∧ Below N w9 w' → Calls Try.prog 46 #[.slice bA lx dA, .slice bD ly dD] w' fun e w'' => ∃ aw cw, e = .returned (.slice aw n4 cw) ∧ SR w'' (.slice aw n4 cw) 3 n4 (hCells L) ∧ Stays N w' w'' := fun w' h => by
                    refine Calls.mono (cm w' h.2) ?_
                    rintro e w'' ⟨v', rfl, hs, -, hb⟩
                    obtain ⟨aw, cw, rfl, -, -⟩ := hs.form
                    exact ⟨aw, cw, rfl, hs, stays_of h.1 hb⟩
                  have hks := keeps_start hN
                  clear cm
                  go_upto_region 20 with fail
                  go_region_held3 (fun w' => N ≤ w'.heap.size ∧ Below N w9 w' ∧ ∀ b o, b < N → w'.cell? ⟨b, o, none⟩ = w9.cell? ⟨b, o, none⟩) (first | exact hks | exact keeps_next (by assumption) (by assumption)) (first | (go_at_call 46; refine Calls.mono (cm2 _ (keepsT_two (by assumption))) ?_; rintro e w12 ⟨aw, cw, rfl, hsw, hz⟩))
                  rename_i hfin
                  have hbf : Below w9.heap.size w9 w12 := by rw [hN]; exact hfin.2.1
                  go_wp2_with fail
                  go_meet
                  exact ⟨_, _, rfl, rfl, Lib.hid ⟨HW9.out.1.go hbf, HW9.out.2.below hbf, hsw⟩⟩
          · obtain ⟨hp, hl, hz⟩ := hsome x.A (by rw [pick_best hE hn, of_self (HSO.out x (List.mem_of_getElem? hx)).sA (HSO.out x (List.mem_of_getElem? hx)).mA])
            have hto := HW9.out.1.gat.tds
            obtain ⟨-, b1, off, rfl, -, -, -, k3⟩ := hto.cell i x hx
            obtain ⟨-, ⟨bA, dA, fA⟩⟩ := TD.forms (hto.2 x (List.mem_of_getElem? hx))
            rw [fA, hz] at k3
            have HRS := Lib.hid (show SR w9 (.slice bA n4 dA) 3 n4 (hCells L) from by
              have := (hto.2 x (List.mem_of_getElem? hx)).2
              rw [fA, hz, ← hl] at this
              exact this)
            have hil : i < us.length := (List.getElem?_eq_some_iff.1 hx).1
            have hi0 : decide ((i : Int) ≥ 0) = true := decide_eq_true (by omega)
            have hi1 : ¬ (i : Int) < 0 := by omega
            have hi2 : (i : Int) < us.length := by omega
            subst hp
            clear hsome hnone hl hz fA hx hn hxe hto
            go_wp2_with fail
            go_meet
            exact ⟨_, _, rfl, rfl, Lib.hid ⟨HW9.out.1, HW9.out.2, HRS.out⟩⟩
      case rest =>
        obtain ⟨aw, cw, rfl, rfl, HW10⟩ := hcut
        obtain ⟨W9, hW9⟩ : ∃ W, W = wc := ⟨_, rfl⟩
        subst hW9
        clear HW9 q0 q3
        go_wp2_with fail
        refine Calls.mono (awake30 _) ?_
        rintro e w11 ⟨rfl, hb11⟩
        have h1 := HW10.out.2.1.below hb11
        have h2 := HW10.out.2.2.below hb11
        have cs := rsame L w11 _ _ (by rw [HLN.out]; exact h1) (by rw [HLN.out]; exact h2) HG.out
        have HB11 := Lib.hid (HW10.out.1.below.trans (hb11.mono HW10.out.1.below.size))
        clear hb11 h1 h2
        cases P
        all_goals
          go_wp2_with fail
          refine Calls.mono cs ?_
          rintro e w12 ⟨rfl, hb12⟩
          have HB12 := Lib.hid (HB11.out.trans (hb12.mono HB11.out.size))
          clear hb12
          go_wp2_with fail
          go_ret
          exact ⟨rfl, HB12.out⟩
end Go.Proofs.Ytadejhlljdcocaa
