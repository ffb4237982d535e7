/-
  flat: what may be asked for, done at once (Do).
-/
import Derived.Test.YtodjlaapmbnahaaFltD
namespace Go.Proofs.Ytodjlaapmbnahaa
open Go.RowKit
set_option linter.unusedVariables false
set_option linter.unusedSimpArgs false

def FDoP (b g : Nat) (L : List ByteArray) (i W : Int) (q m : Nat) (D : ByteArray) (w : World) (ev : Ending) (w' : World) : Prop := ev = .returned (.agg (replyA i 0 ⟨(outL W q L m).toArray⟩)) ∧ FlatAt b g (doL W q D L m) w' ∧ Only g w w'
theorem only_flat {g : Nat} {w w' : World} (h : Below w.heap.size w w') : Only g w w' := ⟨h.os, h.tape, h.output, h.size, fun k hk _ => h.block k hk⟩
theorem frel_end {b g R X pb m : Nat} {i W : Int} {q : Nat} {D : ByteArray} {L : List ByteArray} {w wr wf : World} (h : FRel b g R X pb m i W q D L m w wr) (ho : Only X wr wf) (hX : w.heap.size ≤ X) (hb : b < w.heap.size) (hg : g < w.heap.size) : FlatAt b g (doL W q D L m) wf ∧ Only g w wf := by
  refine ⟨⟨(ho.block b (lt_heap h.flat.1) (by omega)).trans h.flat.1, (ho.block g (lt_heap h.flat.2.1) (by omega)).trans h.flat.2.1, h.flat.2.2⟩, ?_⟩
  have h1 := h.only
  exact ⟨ho.os.trans h1.os, ho.tape.trans h1.tape, ho.output.trans h1.output, Nat.le_trans h1.size ho.size, fun c hc hn => (ho.block c (Nat.lt_of_lt_of_le hc h1.size) (by omega)).trans (h1.block c hc hn)⟩
theorem wrap_o (o : Nat) (h : (o : Int) ≤ 100000) : wrap64 (o : Int) = o := by unfold wrap64; omega
theorem wrap_oI (o : Nat) (h : (o : Int) ≤ 100000) : IntKind.i64.wrap (o : Int) = o := by rw [IntKind.wrap_i64]; omega
theorem meas_k {k m : Nat} (h : k < m) : m - (intOf (.int .i64 ((k : Int) + 1))).toNat < m - (intOf (.int .i64 (k : Int))).toNat := by
  show m - ((k : Int) + 1).toNat < m - ((k : Int)).toNat
  omega
theorem wrap_k1 (k : Nat) (h : k ≤ 1000) : wrap64 ((k : Int) + 1) = (k : Int) + 1 := by unfold wrap64; omega
theorem FRel.same {b g R X pb m : Nat} {i W : Int} {q : Nat} {D : ByteArray} {L : List ByteArray} {k : Nat} {w wr wy : World} (h : FRel b g R X pb m i W q D L k w wr) (h1 : wy.heap = wr.heap) (h2 : wy.os = wr.os) (h3 : wy.tape = wr.tape) (h4 : wy.output = wr.output) : FRel b g R X pb m i W q D L k w wy :=
  ⟨by rw [h1]; exact h.zero, by rw [h1]; exact h.out, ⟨by rw [h1]; exact h.flat.1, by rw [h1]; exact h.flat.2.1, h.flat.2.2⟩, h.parts.move (by rw [h1]), ⟨h2.trans h.only.os, h3.trans h.only.tape, h4.trans h.only.output, by rw [h1]; exact h.only.size, fun c hc hn => by rw [h1]; exact h.only.block c hc hn⟩, by rw [h1]; exact h.lt⟩
set_option maxHeartbeats 6400000 in
set_option maxRecDepth 100000 in
theorem fdo (b g : Nat) (L : List ByteArray) (i W Ln : Int) (q m : Nat) (D : ByteArray) (S : Bool) (w : World) (hLn : (Lit.int .i64 Ln).wf = true) (hD : D.size ≤ maxLen) (hL : Blks L) (hn : L.length ≤ 64) (h : FlatAt b g L w) (hW : W = 0 ∨ W = 1 ∨ W = 2) (hm : AskMay W ((32 * q : Nat) : Int) Ln D L.length) (hz : askSz W Ln D = ((32 * m : Nat) : Int)) :
    Calls Try.prog 23 #[.pointer (some ⟨b, 0, none⟩), .int .i64 i, .agg (askA W ((32 * q : Nat) : Int) Ln D S)] w (FDoP b g L i W q m D w) := by
  have h3 : W ≠ 3 := by omega
  have hin : Inside ((32 * q : Nat) : Int) (askSz W Ln D) L.length := hm.elim (fun h => absurd h h3) (fun h => h.2.2)
  have hq : q + m ≤ L.length ∧ m ≤ 4 ∧ 1 ≤ m := by
    rw [hz] at hin
    unfold Inside at hin
    omega
  have hdz : W = 1 → D.size = 32 * m := by
    intro h; rw [askSz, if_pos h] at hz; omega
  have c1 := fun w => nmay W ((32 * q : Nat) : Int) Ln D S L.length w (wf_of (by omega)) hLn hD
  have c2 := fun w => nparts W Ln q m D S L.length w hLn hD h3 hm hz
  rw [if_pos hm] at c1
  obtain ⟨A, hA⟩ : ∃ A, ((32 * q : Nat) : Int) = A := ⟨_, rfl⟩
  rw [hA] at c1 c2 ⊢
  unfold FDoP askA replyA at *
  obtain ⟨x0, x1, hb, hzz⟩ := two_newF w (.cells #[.int .i64 W, .int .i64 A, .int .i64 Ln, .string D, .bool S] 33) (.cells #[.int .i64 0, .int .i64 0, .string ⟨#[]⟩] 52)
  have hf := h.below hb h.lt.1 h.lt.2
  have cb := fbytes b g L _ hL hf
  obtain ⟨T, hT⟩ : ∃ T : ByteArray, (⟨(flatL L).toArray⟩ : ByteArray) = T := ⟨_, rfl⟩
  have hTs : (T.size : Int) = ((32 * L.length : Nat) : Int) := by rw [← hT]; show (((flatL L).toArray.size : Nat) : Int) = _; rw [List.size_toArray, flatL_len hL]
  have hdv : (T.size : Int).tdiv 32 = (L.length : Int) := by rw [hTs, div32]
  rw [hT] at cb
  obtain ⟨n, hnn⟩ : ∃ n, L.length = n := ⟨_, rfl⟩
  rw [hnn] at c1 c2 hdv
  have hwn : wrap64 (n : Int) = n := by unfold wrap64; omega
  have H := Lib.hid (And.intro x0 (And.intro x1 (And.intro hb (And.intro hzz hf))))
  have HN := Lib.hid (And.intro hnn (And.intro hn (And.intro hq (And.intro hdz (And.intro hL hW)))))
  have HL := Lib.hid h.lt
  clear hA hf hT hTs hnn hLn hD hL h hn x0 x1 hb hzz h3 hin hm hz hq hdz hW
  go_enter Try.func23, Try.ntmps23
  go_upto_region 1 with fail
  generalize (w.alloc (.cells #[.int .i64 W, .int .i64 A, .int .i64 Ln, .string D, .bool S] 33)).alloc (.cells #[.int .i64 0, .int .i64 0, .string ⟨#[]⟩] 52) = w1 at *
  have k0 := cell_atF H.out.1 0 (v := .int .i64 W) rfl
  have k1 := cell_atF H.out.1 1 (v := .int .i64 A) rfl
  have k2 := cell_atF H.out.1 2 (v := .int .i64 Ln) rfl
  have k3 := cell_atF H.out.1 3 (v := .string D) rfl
  have k4 := cell_atF H.out.1 4 (v := .bool S) rfl
  go_wp2_with fail
  refine Calls.mono cb ?_
  rintro e w2 ⟨rfl, rfl⟩
  clear cb
  go_wp2_with fail
  refine Calls.mono (c1 _) ?_
  rintro e w2 ⟨rfl, hb2⟩
  have B2 := Lib.hid (H.out.2.2.1.trans (hb2.mono H.out.2.2.1.size))
  have x2 := below_at hb2 (lt_heap H.out.1) H.out.1
  have y2 := below_at hb2 (lt_heap H.out.2.1) H.out.2.1
  have hf2 := H.out.2.2.2.2.below hb2 H.out.2.2.2.2.lt.1 H.out.2.2.2.2.lt.2
  have hz2 : w.heap.size + 2 ≤ w2.heap.size := by rw [← H.out.2.2.2.1]; exact hb2.size
  clear k0 k1 k2 k3 k4 c1 hb2 H
  have r3 := heap_alloc_self w2 (.cells #[.int .i64 i, .int .i64 0, .string ⟨#[]⟩] 52)
  have b3 : Below w2.heap.size w2 (w2.alloc (.cells #[.int .i64 i, .int .i64 0, .string ⟨#[]⟩] 52)) := (Below.refl _ _).alloc (Nat.le_refl _) _
  have H3 := Lib.hid (And.intro (below_at b3 (lt_heap x2) x2) (And.intro (below_at b3 (lt_heap y2) y2) (And.intro r3 (And.intro (B2.out.trans (b3.mono B2.out.size)) (And.intro hz2 (hf2.below b3 hf2.lt.1 hf2.lt.2))))))
  clear x2 y2 r3 b3 B2 hz2 hf2
  go_upto_region 3 with fail
  generalize w2.alloc (.cells #[.int .i64 i, .int .i64 0, .string ⟨#[]⟩] 52) = w3 at *
  obtain ⟨R, hR⟩ : ∃ R, w2.heap.size = R := ⟨_, rfl⟩
  rw [hR] at H3
  try rw [hR]
  clear hR
  have k0 := cell_atF H3.out.1 0 (v := .int .i64 W) rfl
  have k1 := cell_atF H3.out.1 1 (v := .int .i64 A) rfl
  have k2 := cell_atF H3.out.1 2 (v := .int .i64 Ln) rfl
  have k3 := cell_atF H3.out.1 3 (v := .string D) rfl
  have k4 := cell_atF H3.out.1 4 (v := .bool S) rfl
  go_wp2_with fail
  refine Calls.mono (c2 _) ?_
  rintro e w4 ⟨v, rfl, hown, hb4⟩
  obtain ⟨pb, cap, rfl, hcap, hcap2, hbase, hpl, hparts⟩ := parts_own hown (by have := HN.out.2.2.1; omega)
  have hXR : w.heap.size + 1 < R := by have := H3.out.2.2.2.2.1; omega
  have hRp : R < pb := by have := lt_heap H3.out.2.2.1; omega
  have HX := Lib.hid (And.intro hXR hRp)
  have HF := Lib.hid (show FRel b g R (w.heap.size + 1) pb m i W q D L 0 w w4 from
    ⟨below_at hb4 (lt_heap H3.out.2.1) H3.out.2.1, below_at hb4 (lt_heap H3.out.2.2.1) H3.out.2.2.1, H3.out.2.2.2.2.2.below hb4 H3.out.2.2.2.2.2.lt.1 H3.out.2.2.2.2.2.lt.2, hparts, only_flat (H3.out.2.2.2.1.trans (hb4.mono H3.out.2.2.2.1.size)), hpl⟩)
  clear k0 k1 k2 k3 k4 c2 hb4 H3 hown hparts hbase hpl hXR hRp hwn hdv
  go_wp2_with fail
  go_loopw [10, 11, 25] (fun _ _ j wr => ∃ k : Nat, k ≤ m ∧ j = .int .i64 (k : Int) ∧ Hid (FRel b g R (w.heap.size + 1) pb m i W q D L k w wr)) (fun _ _ j _ => m - (intOf j).toNat)
  case atStart => exact ⟨0, Nat.zero_le _, rfl, HF⟩
  case round =>
    clear HF
    obtain ⟨k, hk, rfl, HR⟩ := hrel
    by_cases hkm : k < m
    · have hkm' : (k : Int) < (m : Int) := by omega
      have p0 := (HR.out.parts k hkm).1
      have p1 := (HR.out.parts k hkm).2.1
      have p2 := (HR.out.parts k hkm).2.2
      obtain ⟨qk, hqk⟩ : ∃ z : Int, ((q + k : Nat) : Int) = z := ⟨_, rfl⟩
      obtain ⟨PD, hPD⟩ : ∃ s, partD W D k = s := ⟨_, rfl⟩
      obtain ⟨bb, hbb⟩ : ∃ x, (!(W == 0)) = x := ⟨_, rfl⟩
      rw [hqk] at p0
      rw [hbb] at p1
      rw [hPD] at p2
      have HQ := Lib.hid (And.intro hqk (And.intro hPD hbb))
      have HK := Lib.hid (And.intro hk hkm)
      clear hqk hPD hk hkm hbb
      go_upto_region 6 with fail
      have s5 := heap_alloc_self wr (.cells #[.int .i64 qk, .bool bb, .string PD] 89)
      have b5 : Below wr.heap.size wr (wr.alloc (.cells #[.int .i64 qk, .bool bb, .string PD] 89)) := (Below.refl _ _).alloc (Nat.le_refl _) _
      obtain ⟨w5, hw5⟩ : ∃ w5, wr.alloc (.cells #[.int .i64 qk, .bool bb, .string PD] 89) = w5 := ⟨_, rfl⟩
      have HW5 := Lib.hid hw5
      rw [hw5] at s5 b5 ⊢
      clear hw5
      obtain ⟨Z, hZ⟩ : ∃ Z, wr.heap.size = Z := ⟨_, rfl⟩
      rw [hZ] at s5 b5
      try rw [hZ]
      have hfl := HR.out.flat
      obtain ⟨M, hM⟩ : ∃ M, 32 * n = M := ⟨_, rfl⟩
      have fb := below_at b5 (by rw [← hZ]; exact lt_heap hfl.1) hfl.1
      rw [doL_len, HN.out.1, hM] at fb
      have e0 := cell_atF fb 0 (v := .slice (some ⟨g, 0, none⟩) M M) rfl
      have d0 := cell_atF s5 0 (v := .int .i64 qk) rfl
      have d1 := cell_atF s5 1 (v := .bool bb) rfl
      have d2 := cell_atF s5 2 (v := .string PD) rfl
      obtain ⟨o, ho⟩ : ∃ o, 32 * (q + k) = o := ⟨_, rfl⟩
      have hoq : qk * 32 = (o : Int) := by have := HQ.out.1; omega
      have hoM : (o : Int) + 32 ≤ (M : Int) := by have := HN.out.2.2.1; have := HN.out.1; have := HK.out; omega
      have ho1 : (o : Int) ≤ (M : Int) := by omega
      have ho2 : (32 : Int) ≤ ((M - o : Nat) : Int) := by omega
      have hM1 : (M : Int) ≤ 2048 := by have := HN.out.2.1; have := HN.out.1; omega
      have hkb : k ≤ 1000 := by have := HK.out; have := HN.out.2.2.1; omega
      have hob : (o : Int) ≤ 100000 := by omega
      have HKB := Lib.hid hkb
      clear hkb
      have hw1 := wrap_oI o hob
      have hw2 := wrap_o o hob
      have HO := Lib.hid (And.intro ho (And.intro hM (And.intro hZ (And.intro fb b5))))
      clear ho hM hZ fb b5 p0 p1 p2 hfl s5
      go_wp2_with fail
      go_quiet (fail)
      clear hw1 hw2
      rcases hb1 : bb with _ | _
      · as_aux_lemma =>
        have hW0 : W = 0 := by have := HQ.out.2.2; rw [hb1] at this; simpa using this
        subst hW0 hb1
        have r2 : w5.cell? ⟨R, 2, none⟩ = some (.string ⟨(outL 0 q L k).toArray⟩) := cell_atF (below_at HO.out.2.2.2.2 (by rw [← HO.out.2.2.1]; exact lt_heap HR.out.out) HR.out.out) 2 rfl
        have rf : w5.frozen? ⟨R, 2, none⟩ = false := by
          have := below_at HO.out.2.2.2.2 (by rw [← HO.out.2.2.1]; exact lt_heap HR.out.out) HR.out.out
          simp [World.frozen?, this]
        obtain ⟨C, hC⟩ : ∃ C : ByteArray, (⟨(outL 0 q L (k + 1)).toArray⟩ : ByteArray) = C := ⟨_, rfl⟩
        have hcv : ∀ nq, (convert 68 9 (.slice (some ⟨g, o, none⟩) 32 (M - o))).run Try.prog (w5.drewN nq) = .ok (.string ⟨(((flatL L).drop o).take 32).toArray⟩) (w5.drewN nq) := by
          intro nq
          have hfl := HR.out.flat.2.1
          rw [doL_read] at hfl
          have hg5 := below_at HO.out.2.2.2.2 (by rw [← HO.out.2.2.1]; exact lt_heap hfl) hfl
          exact flat_string Try.underlying68 Try.underlying5 Try.underlying9 (w := w5.drewN nq) hg5 o 32 (M - o) (by rw [flatL_len HN.out.2.2.2.2.1]; have := HN.out.1; have := HO.out.2.1; omega)
        have hlen : (outL 0 q L k).length ≤ 128 := by
          have := outL_len (W := 0) HN.out.2.2.2.2.1 HN.out.2.2.1.1 k HK.out.1
          have := HN.out.2.2.1
          omega
        have hwk := wrap_k1 k HKB.out
        go_wp2_with fail
        go_roundw
        case rel =>
          have HWK := Lib.hid hwk
          clear hwk
          have hw := HR.out.read HN.out.2.2.2.2.1 HK.out.2 HN.out.2.2.1.1 HL.out.2 HL.out.1 (by omega) (by have := HX.out; omega) (by have := HX.out; omega) HX.out.1 HX.out.2 (.cells #[.int .i64 qk, .bool false, .string PD] 89) (s := ⟨(outL 0 q L k).toArray⟩ ++ ⟨(((flatL L).drop o).take 32).toArray⟩) (by
            have hlt : q + k < L.length := by have := HN.out.2.2.1; have := HK.out; omega
            rw [str_append, outL, if_pos rfl, ← HO.out.1, flatL_at HN.out.2.2.2.2.1 hlt, List.getD_eq_getElem?_getD, List.getElem?_eq_getElem hlt, Option.getD_some])
          have hw5 := HW5.out
          refine ⟨k + 1, HK.out.2, by rw [HWK.out]; simp, Lib.hid (hw.same ?_ ?_ ?_ ?_)⟩
          all_goals (subst hw5; rfl)
        case measure =>
          have hm2 := meas_k HK.out.2
          rw [← hwk] at hm2
          exact hm2
      · as_aux_lemma =>
        have hW1 : W = 1 ∨ W = 2 := by
          have := HQ.out.2.2; rw [hb1] at this
          exact HN.out.2.2.2.2.2.resolve_left (by simpa using this)
        subst hb1
        have hg5 := below_at HO.out.2.2.2.2 (by rw [← HO.out.2.2.1]; exact lt_heap HR.out.flat.2.1) HR.out.flat.2.1
        have hps : PD.size = 32 := by rw [← HQ.out.2.1]; exact partD_size HN.out.2.2.2.1 HK.out.2 hW1
        have hcl : (bCells (flatL (doL W q D L k))).length = M := by
          rw [bCells_length, flatL_len (doL_blks HN.out.2.2.2.2.1 HN.out.2.2.2.1 HN.out.2.2.2.2.2 k HK.out.1), doL_len, HN.out.1, HO.out.2.1]
        have hcp : ∀ nq, (Builtin.copy_ #[68, 9] 3 #[.slice (some ⟨g, o, none⟩) 32 (M - o), .string PD]).run Try.prog (w5.drewN nq) = .ok (goInt 32) ((w5.drewN nq).setRow g (splice (bCells (flatL (doL W q D L k))).toArray.toList o (Lib.strCells PD)).toArray) := fun nq =>
          run_copy_str (P := Try.prog) (w5.drewN nq) 68 9 3 5 g o 32 (M - o) PD _ 5 Try.underlying68 (by kernel_rfl) hg5 hps (by simp only [List.size_toArray]; omega)
        obtain ⟨ROW, hROW⟩ : ∃ ROW, (splice (bCells (flatL (doL W q D L k))).toArray.toList o (Lib.strCells PD)).toArray = ROW := ⟨_, rfl⟩
        rw [hROW] at hcp
        have HROW := Lib.hid hROW
        clear hg5 hcl hps hROW
        have hwk := wrap_k1 k HKB.out
        go_wp2_with fail
        go_roundw
        case rel =>
          have HWK := Lib.hid hwk
          clear hwk
          have hw := HR.out.write HN.out.2.2.2.2.1 HN.out.2.2.2.1 hW1 HK.out.2 HN.out.2.2.1.1 HL.out.2 (by omega) (by have := HX.out; omega) (by have := HX.out; omega) (.cells #[.int .i64 qk, .bool true, .string PD] 89)
          have hw5 := HW5.out
          refine ⟨k + 1, HK.out.2, by rw [HWK.out]; simp, Lib.hid (hw.same ?_ ?_ ?_ ?_)⟩
          all_goals first | (subst hw5; rw [← HROW.out, HQ.out.2.1, HO.out.1]; rfl) | (subst hw5; rfl)
        case measure =>
          have hm2 := meas_k HK.out.2
          rw [← hwk] at hm2
          exact hm2
    · as_aux_lemma =>
      obtain rfl : k = m := by omega
      clear hkm hk
      have r0 := cell_atF HR.out.out 0 (v := .int .i64 i) rfl
      have r1 := cell_atF HR.out.out 1 (v := .int .i64 0) rfl
      have r2 := cell_atF HR.out.out 2 (v := .string ⟨(outL W q L k).toArray⟩) rfl
      have z0 := cell_atF HR.out.zero 0 (v := .int .i64 0) rfl
      have z1 := cell_atF HR.out.zero 1 (v := .int .i64 0) rfl
      have z2 := cell_atF HR.out.zero 2 (v := .string ⟨#[]⟩) rfl
      have zf : ∀ j, wr.frozen? ⟨w.heap.size + 1, j, none⟩ = false := fun j => by simp [World.frozen?, HR.out.zero]
      obtain ⟨f, o⟩ := three_set HR.out.zero (a' := .int .i64 i) (b' := .int .i64 0) (c' := .string ⟨(outL W q L k).toArray⟩)
      have H5 := Lib.hid (And.intro f (frel_end HR.out o (by omega) HL.out.1 HL.out.2))
      clear f o
      go_wp2_with fail
      generalize ((wr.setCell ⟨w.heap.size + 1, 0, none⟩ (.int .i64 i)).setCell ⟨w.heap.size + 1, 1, none⟩ (.int .i64 0)).setCell ⟨w.heap.size + 1, 2, none⟩ (.string ⟨(outL W q L k).toArray⟩) = wf at *
      have y0 := cell_atF H5.out.1 0 (v := .int .i64 i) rfl
      have y1 := cell_atF H5.out.1 1 (v := .int .i64 0) rfl
      have y2 := cell_atF H5.out.1 2 (v := .string ⟨(outL W q L k).toArray⟩) rfl
      refine bodyPost_ret (v := .agg #[.int .i64 i, .int .i64 0, .string ⟨(outL W q L k).toArray⟩]) (by simp [results, Try.results23, go_sem, y0, y1, y2]) rfl ?_
      exact ⟨rfl, H5.out.2.1, H5.out.2.2⟩
end Go.Proofs.Ytodjlaapmbnahaa
