/-
  tarnlaw35.history: the walk.
-/
import Derived.Test.YtodjlaapmbnahaaMh4
namespace Go.Proofs.Ytodjlaapmbnahaa
open Go.RowKit
set_option linter.unusedVariables false
set_option linter.unusedSimpArgs false

theorem meas_60H {j : Nat} (h : (j : Int) < 60) : 60 - (intOf (.int .i64 ((j : Int) + 1))).toNat < 60 - (intOf (.int .i64 (j : Int))).toNat := by
  show 60 - ((j : Int) + 1).toNat < 60 - ((j : Int)).toNat
  omega
set_option maxHeartbeats 6400000 in
set_option maxRecDepth 100000 in
theorem phistory (a : Option Addr) (len cap : Nat) (k : Int) (w : World) (hf : Fits w (.slice (.two (.int .i64) (.two (.two (.int .i64) (.two (.int .i64) (.two (.int .i64) (.two .str (.two .bool .unit))))) (.two .bool .unit)))) [.slice a len cap]) (hk : 1 ≤ k ∧ k ≤ 4) :
    Calls Try.prog 6 #[.slice a len cap, .int .i64 k] w (HistP w) := by
  unfold HistP
  obtain ⟨i0, hi, hz0, hz1, hz2⟩ := info_parts einfoH
  obtain ⟨rs, hrs, hel, hok⟩ := fits_rows (c := TurnF.cells) (good := TurnF.ok) fits_turnF hf
  have hlc := hf.slice.1
  have hcm := hf.slice.2.1
  unfold maxLen at hcm
  have HE := Lib.hid (And.intro hrs (And.intro hel hok))
  clear hrs hel hok hf
  have b0 : Below w.heap.size w (w.alloc (.cells #[] 36)) := (Below.refl _ _).alloc (Nat.le_refl _) _
  have hown := World.ownsRow_lit (base := w.heap.size) (e := 36) (size := 10) w #[] 0 (Nat.le_refl _) (by decide) rfl
  have cV := rnew35 4 (w.alloc (.cells #[] 36)) (by decide)
  unfold RNewP at cV
  have H0 := Lib.hid (And.intro b0 hown)
  obtain ⟨N, hN⟩ : ∃ N, w.heap.size = N := ⟨_, rfl⟩
  rw [hN] at H0
  have hz : (w.alloc (.cells #[] 36)).heap.size = N + 1 := by simp [hN]
  clear b0 hown
  go_enter Try.func6, Try.ntmps6
  go_wp2_with fail
  refine Calls.mono cV ?_
  rintro e w2 ⟨v2, rfl, hv2, hb2⟩
  have h4 : (4 : Nat) = (List.replicate 4 (zeroL 32)).length := by simp
  obtain ⟨p, c3, rfl, hV3, hp3, -⟩ := VAt.owns (L := List.replicate 4 (zeroL 32)) (by rw [← h4]; exact hv2) (by decide)
  rw [← h4]
  have hb4 : Below w2.heap.size w2 (w2.alloc (.cells #[.slice (some ⟨p, 0, none⟩) 4 c3] 47)) := (Below.refl _ _).alloc (Nat.le_refl _) _
  have hb24 : Below (N + 1) (w.alloc (.cells #[] 36)) (w2.alloc (.cells #[.slice (some ⟨p, 0, none⟩) 4 c3] 47)) := by
    rw [← hz]
    exact hb2.trans (hb4.mono hb2.size)
  obtain ⟨Y, hY⟩ : ∃ Y, w2.heap.size = Y := ⟨_, rfl⟩
  have hNY : N < Y := by have := hb2.size; omega
  have hpY : p < Y := by have := hV3.2.2.2; omega
  have HV := Lib.hid (And.intro (hV3.below hb4) (And.intro hp3 (And.intro hb24 (heap_alloc_self w2 (.cells #[.slice (some ⟨p, 0, none⟩) 4 c3] 47)))))
  have hz3 : (w2.alloc (.cells #[.slice (some ⟨p, 0, none⟩) 4 c3] 47)).heap.size = Y + 1 := by simp [hY]
  rw [hY] at HV
  clear hV3 hp3 hb4 hb24 h4 cV hv2 hb2
  go_upto_region 2 with fail
  try rw [hY]
  generalize w2.alloc (.cells #[.slice (some ⟨p, 0, none⟩) 4 c3] 47) = w3 at *
  clear hY
  obtain ⟨t7, t8, t9, tb⟩ := three_newH w3 (.cells #[.int .i64 0, .int .i64 0, .int .i64 0, .int .i64 0] 49)
    (.cells #[.int .i64 0, .int .i64 0, .int .i64 0, .string ⟨#[]⟩, .bool false, .int .i64 0, .int .i64 0, .int .i64 0, .string ⟨#[]⟩, .bool false, .int .i64 0, .int .i64 0, .int .i64 0, .string ⟨#[]⟩, .bool false, .int .i64 0, .int .i64 0, .int .i64 0, .string ⟨#[]⟩, .bool false] 50)
    (.cells #[.int .i64 0, .int .i64 0, .string ⟨#[]⟩, .int .i64 0, .int .i64 0, .string ⟨#[]⟩, .int .i64 0, .int .i64 0, .string ⟨#[]⟩, .int .i64 0, .int .i64 0, .string ⟨#[]⟩] 53)
  rw [hz3] at t7 t8 t9 tb
  have HT := Lib.hid (And.intro t7 (And.intro t8 (And.intro t9 tb)))
  clear t7 t8 t9 tb
  go_upto_region 3 with (first
    | (refine wpList_store_same (op := ⟨none, .store 49 (.tmp 7) (.tmp 18), 0, _, _, _⟩) rfl 49 (.tmp 7) (.tmp 18) rfl (Y + 1) _ rfl rfl HT.out.1 (by kernel_rfl) (by simp [Value.oneCell']) ?_)
    | (refine wpList_store_same (op := ⟨none, .store 50 (.tmp 8) (.tmp 19), 0, _, _, _⟩) rfl 50 (.tmp 8) (.tmp 19) rfl (Y + 1 + 1) _ rfl rfl HT.out.2.1 (by kernel_rfl) (by simp [Value.oneCell']) ?_)
    | (refine wpList_store_same (op := ⟨none, .store 53 (.tmp 9) (.tmp 20), 0, _, _, _⟩) rfl 53 (.tmp 9) (.tmp 20) rfl (Y + 1 + 1 + 1) _ rfl rfl HT.out.2.2.1 (by kernel_rfl) (by simp [Value.oneCell']) ?_))
  generalize ((w3.alloc (.cells #[.int .i64 0, .int .i64 0, .int .i64 0, .int .i64 0] 49)).alloc (.cells #[.int .i64 0, .int .i64 0, .int .i64 0, .string ⟨#[]⟩, .bool false, .int .i64 0, .int .i64 0, .int .i64 0, .string ⟨#[]⟩, .bool false, .int .i64 0, .int .i64 0, .int .i64 0, .string ⟨#[]⟩, .bool false, .int .i64 0, .int .i64 0, .int .i64 0, .string ⟨#[]⟩, .bool false] 50)).alloc (.cells #[.int .i64 0, .int .i64 0, .string ⟨#[]⟩, .int .i64 0, .int .i64 0, .string ⟨#[]⟩, .int .i64 0, .int .i64 0, .string ⟨#[]⟩, .int .i64 0, .int .i64 0, .string ⟨#[]⟩] 53) = w4 at *
  have HR := Lib.hid (show HL N Y w 0 0 (.slice (some ⟨N, 0, none⟩) 0 0) w4 from by
    obtain ⟨v1, v2, v3, v4⟩ := HV.out
    obtain ⟨t7, t8, t9, tb⟩ := HT.out
    have tb' : Below w3.heap.size w3 w4 := by rw [hz3]; exact tb
    have b24 : Below (N + 1) (w.alloc (.cells #[] 36)) w4 := v3.trans (tb.mono (by omega))
    refine ⟨[], List.replicate 4 (zeroL 32), [], fun _ => 0, fun _ => ⟨0, 0, 0, 0, 0, ⟨#[]⟩, false, false, ⟨#[]⟩, none⟩, _, _, Nat.le_refl _, Nat.le_refl _, hsA0, fun y hy => (by cases hy), cl0 _, ⟨⟨p, c3, v1.below tb', below_at tb' (lt_heap v4) v4, .inl hpY, fun e => ?_⟩, ?_, ?_, arr_of t8, arr_of t9, H0.out.1.trans (b24.mono (by omega)), ?_, hNY⟩, fun q _ h => (by cases h), fun q _ h => absurd rfl h, fun q _ h => (by cases h), fun e he => (by cases he), fun x hx => (by cases hx)⟩
    · have e1 : N = p := Option.some.inj e
      rw [hz] at v2
      omega
    · exact owns_below (show (w.alloc (.cells #[] 36)).ownsRow N 36 10 (.slice (some ⟨N, 0, none⟩) 0 0) ([] : List Ev).length (evCH []) from H0.out.2) (by rw [hz]; exact b24)
    · exact ⟨_, t7, rfl, fun k hk => match k, hk with | 0, _ => rfl | 1, _ => rfl | 2, _ => rfl | 3, _ => rfl⟩
    · have := b24.size
      rw [hz] at this
      omega)
  clear HV HT hz3 H0 hz hpY hNY
  go_wp2_with fail
  go_loopw [5, 10, 11] (fun hv dv iv wr => ∃ j ids : Nat, j ≤ len ∧ j ≤ 60 ∧ dv = .int .i64 (ids : Int) ∧ iv = .int .i64 (j : Int) ∧ Hid (HL N Y w j ids hv wr)) (fun _ _ iv _ => 60 - (intOf iv).toNat)
  case atStart => exact ⟨0, 0, Nat.zero_le _, by decide, rfl, rfl, HR⟩
  case round =>
    clear HR
    obtain ⟨j, ids, hj1, hj2, rfl, rfl, HRel⟩ := hrel
    by_cases hin : j < len ∧ (j : Int) < 60
    · obtain ⟨hi1, hi2⟩ := hin
      have hi1' : (j : Int) < (len : Int) := by omega
      obtain ⟨E, V, ops, P, op, f8, f9, hids, hEl, HW0⟩ := HRel.out
      have HW1 := Lib.hid HW0
      obtain ⟨x, hx⟩ : ∃ x, rs[j]? = some x := ⟨rs[j]'(by rw [HE.out.1]; exact hi1), List.getElem?_eq_getElem _⟩
      obtain ⟨-, b0, off, rfl, hb0, hcell⟩ := (HE.out.2.1.below (HW0.mem.low.mono (Nat.le_of_eq hN))).at_ hx
      have e0 : wr.cell? ⟨b0, off + j * 7, none⟩ = some (.int .i64 x.who) := hcell 0 (.int .i64 x.who) rfl
      have hxo := HE.out.2.2 x (List.mem_of_getElem? hx)
      have HX := Lib.hid (And.intro hxo hcell)
      have hmask : bits .and .i64 x.who 15 = x.who % 16 := mask_mod x.who 4 15 (by decide) (by decide)
      obtain ⟨m, hm⟩ : ∃ m, x.who % 16 = m := ⟨_, rfl⟩
      rw [hm] at hmask
      obtain ⟨q, hq⟩ : ∃ q : Nat, m.tmod k = (q : Int) := ⟨(m.tmod k).toNat, by have := Int.tmod_nonneg k (show 0 ≤ m by omega); omega⟩
      have hq4 : q < 4 := by
        have := Int.tmod_lt_of_pos m (show 0 < k by omega)
        omega
      have p0 := HW0.mem.a7.cell hq4
      clear HW0 HRel hcell hx hb0 hxo
      have hP2 := HW1.out.cl.le q hq4
      rcases (by omega : P q = 0 ∨ P q = 1 ∨ P q = 2) with hP | hP | hP
      · rw [hP] at p0
        have e1 : wr.cell? ⟨b0, off + j * 7 + 1, none⟩ = some (.int .i64 x.ask.W) := HX.out.2 1 (.int .i64 x.ask.W) rfl
        have e2 : wr.cell? ⟨b0, off + j * 7 + 1 + 1, none⟩ = some (.int .i64 x.ask.A) := HX.out.2 2 (.int .i64 x.ask.A) rfl
        have e3 : wr.cell? ⟨b0, off + j * 7 + 1 + 2, none⟩ = some (.int .i64 x.ask.L) := HX.out.2 3 (.int .i64 x.ask.L) rfl
        have e4 : wr.cell? ⟨b0, off + j * 7 + 1 + 3, none⟩ = some (.string x.ask.D) := HX.out.2 4 (.string x.ask.D) rfl
        have e5 : wr.cell? ⟨b0, off + j * 7 + 1 + 4, none⟩ = some (.bool x.ask.S) := HX.out.2 5 (.bool x.ask.S) rfl
        have hxa := HX.out.1.2
        have hids6 : (ids : Int) < 60 := by omega
        have co := anear4 x.ask.W x.ask.A x.ask.L x.ask.D x.ask.S 4 ((ids : Int) + 1) wr hxa.1 hxa.2.1 hxa.2.2.1 (by decide) (wf_of (by omega)) hxa.2.2.2
        unfold AskPost4 askA at co
        have hqi : (q : Int) < 4 := by omega
        have hqn : ¬ (q : Int) < 0 := by omega
        have hql : q < 4 := hq4
        clear hxa
        go_wp2_with fail
        refine Calls.mono co ?_
        rintro e w5 ⟨W, A, L, D, S, rfl, q1, q2, q3, q4, q5, hb5⟩
        have H5 := HW1.out.mem.below hb5
        have a0 := H5.a8.cell (k := q * 5) (by omega)
        have a1 := H5.a8.cell (k := q * 5 + 1) (by omega)
        have a2 := H5.a8.cell (k := q * 5 + 2) (by omega)
        have a3 := H5.a8.cell (k := q * 5 + 3) (by omega)
        have a4 := H5.a8.cell (k := q * 5 + 4) (by omega)
        have af := fun i => H5.a8.frozen i
        obtain ⟨g8, hG, hg, hgo⟩ := H5.put8 q (.int .i64 W) (.int .i64 A) (.int .i64 L) (.string D) (.bool S)
        have HG := Lib.hid (And.intro hG (And.intro hg hgo))
        have HQ := Lib.hid (And.intro q1 (And.intro q2 (And.intro q3 (And.intro q4 (Lib.hid q5)))))
        clear co e0 e1 e2 e3 e4 e5 q1 q2 q3 q4 q5 hb5 H5 hG hg hgo
        go_upto_region 13 with fail
        obtain ⟨w12, hw12⟩ : ∃ w12, ((((w5.setCell ⟨Y + 1 + 1, q * 5, none⟩ (.int .i64 W)).setCell ⟨Y + 1 + 1, q * 5 + 1, none⟩ (.int .i64 A)).setCell ⟨Y + 1 + 1, q * 5 + 2, none⟩ (.int .i64 L)).setCell ⟨Y + 1 + 1, q * 5 + 3, none⟩ (.string D)).setCell ⟨Y + 1 + 1, q * 5 + 4, none⟩ (.bool S) = w12 := ⟨_, rfl⟩
        rw [hw12] at HG
        rw [hw12]
        clear hw12 a0 a1 a2 a3 a4 af p0
        have a0 := HG.out.1.a8.cell (k := q * 5) (by omega)
        have a1 := HG.out.1.a8.cell (k := q * 5 + 1) (by omega)
        have a2 := HG.out.1.a8.cell (k := q * 5 + 2) (by omega)
        have a3 := HG.out.1.a8.cell (k := q * 5 + 3) (by omega)
        have a4 := HG.out.1.a8.cell (k := q * 5 + 4) (by omega)
        have af := fun i => HG.out.1.a8.frozen i
        rw [HG.out.2.1.1] at a0
        rw [HG.out.2.1.2.1] at a1
        rw [HG.out.2.1.2.2.1] at a2
        rw [HG.out.2.1.2.2.2.1] at a3
        rw [HG.out.2.1.2.2.2.2] at a4
        go_upto_if 77 with fail
        obtain ⟨tb, htb⟩ : ∃ tb, (W == 2) = tb := ⟨_, rfl⟩
        try rw [htb]
        have HTB := Lib.hid htb
        clear htb
        go_cut [] (fun wx => ∃ W' A' L' D' S' h8, W' ≠ 2 ∧ (Lit.int .i64 A').wf = true ∧ (Lit.int .i64 L').wf = true ∧ D'.size ≤ maxLen ∧ (W' = 1 → ∃ m, MarkB ((ids : Int) + 1) D' m) ∧ HM N Y w E V (fun k => .int .i64 (P k : Int)) h8 f9 u5 wx ∧ (h8 (q * 5) = .int .i64 W' ∧ h8 (q * 5 + 1) = .int .i64 A' ∧ h8 (q * 5 + 2) = .int .i64 L' ∧ h8 (q * 5 + 3) = .string D' ∧ h8 (q * 5 + 4) = .bool S') ∧ ∀ r, r ≠ q → ∀ k, k < 5 → h8 (r * 5 + k) = f8 (r * 5 + k))
        case first =>
          cases tb
          · go_wp2_with fail
            go_meet
            have hn : W ≠ 2 := fun e => by have h1 := HTB.out; rw [e] at h1; cases h1
            exact ⟨W, A, L, D, S, g8, hn, HQ.out.2.1, HQ.out.2.2.1, HQ.out.2.2.2.1, HQ.out.2.2.2.2.out, HG.out⟩
          · go_wp2_with fail
            go_region_law (fail)
            all_goals
              go_wp2_with fail
              go_meet
              obtain ⟨h8, b1, b2, b3⟩ := (HG.out.1.below (below_drew' (Below.refl _ _))).put8 q (.int .i64 0) (.int .i64 A) (.int .i64 L) (.string ⟨#[]⟩) (.bool false)
              exact ⟨0, A, L, ⟨#[]⟩, false, h8, by decide, HQ.out.2.1, HQ.out.2.2.1, by decide, (fun e => by cases e), b1, b2, fun r hr k hk => (b3 r hr k hk).trans (HG.out.2.2 r hr k hk)⟩
        case rest =>
          obtain ⟨W', A', L', D', S', h8, r1, r2, r3, r4, r5, r6, r7, r8⟩ := hcut
          obtain ⟨wX, hwX⟩ : ∃ W0, W0 = wc := ⟨_, rfl⟩
          subst hwX
          clear a0 a1 a2 a3 a4 af
          have b0 := r6.a9.cell (k := q * 3) (by omega)
          have b1 := r6.a9.cell (k := q * 3 + 1) (by omega)
          have b2 := r6.a9.cell (k := q * 3 + 2) (by omega)
          have bf := fun i => r6.a9.frozen i
          obtain ⟨g9, t1, t2, t3⟩ := r6.put9 q (.int .i64 ((ids : Int) + 1)) (.int .i64 0) (.string ⟨#[]⟩)
          have HX9 := Lib.hid (And.intro t1 (And.intro t2 t3))
          have HR8 := Lib.hid (And.intro r1 (And.intro r2 (And.intro r3 (And.intro r4 (And.intro (Lib.hid r5) (And.intro r7 r8))))))
          clear r1 r2 r3 r4 r5 r6 r7 r8 t1 t2 t3
          go_upto_region 16 with fail
          obtain ⟨w15, hw15⟩ : ∃ w15, ((wX.setCell ⟨Y + 1 + 1 + 1, q * 3, none⟩ (.int .i64 ((ids : Int) + 1))).setCell ⟨Y + 1 + 1 + 1, q * 3 + 1, none⟩ (.int .i64 0)).setCell ⟨Y + 1 + 1 + 1, q * 3 + 2, none⟩ (.string ⟨#[]⟩) = w15 := ⟨_, rfl⟩
          rw [hw15] at HX9
          rw [hw15]
          clear hw15 b0 b1 b2 bf
          have a0 := HX9.out.1.a8.cell (k := q * 5) (by omega)
          have a1 := HX9.out.1.a8.cell (k := q * 5 + 1) (by omega)
          have a2 := HX9.out.1.a8.cell (k := q * 5 + 2) (by omega)
          have a3 := HX9.out.1.a8.cell (k := q * 5 + 3) (by omega)
          have a4 := HX9.out.1.a8.cell (k := q * 5 + 4) (by omega)
          rw [HR8.out.2.2.2.2.2.1.1] at a0
          rw [HR8.out.2.2.2.2.2.1.2.1] at a1
          rw [HR8.out.2.2.2.2.2.1.2.2.1] at a2
          rw [HR8.out.2.2.2.2.2.1.2.2.2.1] at a3
          rw [HR8.out.2.2.2.2.2.1.2.2.2.2] at a4
          obtain ⟨x, hx⟩ : ∃ x : OpR, x = ⟨(ids : Int) + 1, E.length, W', A', L', D', S', false, ⟨#[]⟩, none⟩ := ⟨_, rfl⟩
          have hxe : x.ev = ⟨false, (ids : Int) + 1, 5, W', A', L', D', S', 0, ⟨#[]⟩⟩ := by rw [hx]; rfl
          have HXE := Lib.hid (And.intro hx hxe)
          clear hx hxe
          go_wp2_with (at_builtin; refine wp_app Try.underlying23 hi hz0 hz1 hz2 rfl (by decide) rfl (.tmp 93) (.tmp 99) rfl N u5 E.length (evCH E) rfl ?c5 _ 1 (evCH [⟨false, (ids : Int) + 1, 5, W', A', L', D', S', 0, ⟨#[]⟩⟩]) rfl (SR.lit _ _ #[.bool false, .int .i64 ((ids : Int) + 1), .int .i64 5, .int .i64 W', .int .i64 A', .int .i64 L', .string D', .bool S', .int .i64 0, .string ⟨#[]⟩] 10 1 (by decide) rfl) ?c1 ?c2 ?c3 ?c4 ?_)
          case c5 => exact owns_below HX9.out.1.row ((Below.refl _ _).alloc (Nat.le_refl _) _)
          case c1 => exact evC_oneH _
          case c2 => unfold maxLen; omega
          case c3 => omega
          case c4 => have := HX9.out.1.big; simp; omega
          intro v' w16 hown hgr
          have HF := Lib.hid (HM.app (x := x.ev) (HX9.out.1.below ((Below.refl _ _).alloc (Nat.le_refl _) _)) HW1.out.hs.n hgr (by rw [HXE.out.2]; exact hown))
          have p0 := HF.out.a7.cell hq4
          have f7 := HF.out.a7.frozen q
          rw [hP] at p0
          clear hown hgr a0 a1 a2 a3 a4
          go_wp2_with fail
          go_roundw
          case rel =>
            have hx := HXE.out.1
            refine ⟨j + 1, ids + 1, by omega, by omega, by go_num, by go_num, Lib.hid ⟨_, V, _, _, _, h8, g9, by omega, by simp; omega, HW1.out.ask hq4 hP (by omega) x (by rw [hx]) (by rw [hx]) (by rw [hx]) (by rw [hx]) (by rw [hx]; exact HR8.out.1) (by rw [hx]; exact HR8.out.2.2.2.2.1.out) (by unfold NV; omega) (by rw [hx]; exact ⟨HR8.out.2.1, HR8.out.2.2.1, HR8.out.2.2.2.1, by show (0 : Nat) ≤ 128; decide⟩) (fun r hr hn k hk => HR8.out.2.2.2.2.2.2 r hn k hk) (by rw [hx]; exact HR8.out.2.2.2.2.2.1) (fun r hr hn => HX9.out.2.2 r hn) (by rw [hx]; exact HX9.out.2.1) HF.out⟩⟩
          case measure => exact meas_60H hi2
      · rw [hP] at p0
        obtain ⟨o1, o2, o3⟩ := HW1.out.cl.on q hq4 (by omega)
        obtain ⟨k0, k1, k2, k3, k4⟩ := HW1.out.c8 q hq4 hP
        have a0 := HW1.out.mem.a8.cell (k := q * 5) (by omega)
        have a1 := HW1.out.mem.a8.cell (k := q * 5 + 1) (by omega)
        have a2 := HW1.out.mem.a8.cell (k := q * 5 + 2) (by omega)
        have a3 := HW1.out.mem.a8.cell (k := q * 5 + 3) (by omega)
        have a4 := HW1.out.mem.a8.cell (k := q * 5 + 4) (by omega)
        rw [k0] at a0
        rw [k1] at a1
        rw [k2] at a2
        rw [k3] at a3
        rw [k4] at a4
        obtain ⟨p', c', hV6, hY6, hp6, hh6⟩ := HW1.out.mem.v
        have y0 := cell_atF hY6 0 (v := .slice (some ⟨p', 0, none⟩) 4 c') rfl
        have of := HW1.out.fine _ o1
        obtain ⟨z, hz⟩ : ∃ z, op q = z := ⟨_, rfl⟩
        rw [hz] at a0 a1 a2 a3 a4 o1 o2 o3 of
        have cD : ∀ wz, Below wr.heap.size wr wz → Calls Try.prog 18 #[.agg #[.slice (some ⟨p', 0, none⟩) 4 c'], .agg #[.int .i64 z.W, .int .i64 z.A, .int .i64 z.L, .string z.D, .bool z.S]] wz (RStepX z.stp p' V wz) := fun wz hb => rstepX z.stp p' c' V wz (hV6.below hb) of.1 of.2.1 of.2.2.1 HW1.out.hs.bl HW1.out.hs.n
        have hqi : (q : Int) < 4 := by omega
        have hqn : ¬ (q : Int) < 0 := by omega
        have hql : q < 4 := hq4
        have HK := Lib.hid (And.intro hV6 (And.intro hY6 (And.intro hp6 (And.intro hh6 (And.intro o1 (And.intro o2 (And.intro o3 of)))))))
        clear k0 k1 k2 k3 k4 hV6 hY6 hp6 hh6 o1 o2 o3 of
        obtain ⟨M, hM⟩ : ∃ M, wr.heap.size = M := ⟨_, rfl⟩
        obtain ⟨hYM, -, hY2M, hY3M⟩ := HW1.out.mem.blk
        rw [hM] at hYM hY2M hY3M
        have hp6M : p' < M := by rw [← hM]; exact HK.out.1.2.2.2
        have cD2 : ∀ wz, M ≤ wz.heap.size ∧ Below M wr wz → Calls Try.prog 18 #[.agg #[.slice (some ⟨p', 0, none⟩) 4 c'], .agg #[.int .i64 z.W, .int .i64 z.A, .int .i64 z.L, .string z.D, .bool z.S]] wz fun e w'' => ∃ p7 c7 okv, e = .returned (.tuple #[.agg #[.slice (some ⟨p7, 0, none⟩) 4 c7], .string (outS z.stp V), .bool okv]) ∧ Stays M wz w'' ∧ Below wz.heap.size wz w'' ∧ VAt p7 c7 (stepV z.stp V) w'' ∧ (outS z.stp V).size ≤ 128 ∧ (p7 = p' ∨ wz.heap.size ≤ p7) := fun wz h => (cD wz (by rw [hM]; exact h.2)).mono fun e w'' ⟨p7, c7, okv, h1, h2, h3, h4, h5, h6⟩ => ⟨p7, c7, okv, h1, stays_of h.1 h6, h6, h2, h4, h5⟩
        have HM0 := Lib.hid (And.intro hM hp6M)
        clear cD hM hp6M
        go_upto_region 18 with fail
        go_cut [13, 14] from 103 to 111 (fun av bv wx => ∃ Z p7 c7, av = .pointer (some ⟨Z, 0, none⟩) ∧ bv = .string (outS z.stp V) ∧ wx.heap[Z]? = some (.cells #[.slice (some ⟨p7, 0, none⟩) 4 c7] 47) ∧ VAt p7 c7 (stepV z.stp V) wx ∧ (p7 = p' ∨ M ≤ p7) ∧ M ≤ Z ∧ (outS z.stp V).size ≤ 128 ∧ Below M wr wx)
        case first =>
          go_region_held3 (fun w' => M ≤ w'.heap.size ∧ Below M wr w' ∧ ∀ b o, b < M → w'.cell? ⟨b, o, none⟩ = wr.cell? ⟨b, o, none⟩) (first | exact keeps_start HM0.out.1 | exact keeps_next (by assumption) (by assumption) | exact keeps_alloc (by assumption) | exact keeps_alloc (keeps_next (keeps_start HM0.out.1) hz') | exact keeps_set1H (by assumption) (Nat.le_of_eq HM0.out.1.symm)) (first | (go_at_call 18; refine Calls.mono (cD2 _ (keeps_twoH (by assumption))) ?_; rintro e wz ⟨p7, c7, okv, rfl, hz', hzz, hV7, hout, hpp⟩; try (have y : wz.heap[wr.heap.size]? = some (.cells #[.slice none 0 0] 47) := below_at hzz (by simp) (heap_alloc_self wr.drew (.cells #[.slice none 0 0] 47)); have g0 := cell_atF y 0 (v := .slice none 0 0) rfl; have g1 : ∀ i, wz.frozen? ⟨wr.heap.size, i, none⟩ = false := fun i => by simp [World.frozen?, y])))
          all_goals
            rename_i hfin
            have HF := Lib.hid hfin.2.1
            clear hfin
            go_wp2_with fail
            go_meet
            first
              | exact ⟨_, p7, c7, rfl, rfl, heap_alloc_self wz _, hV7.below ((Below.refl _ _).alloc (Nat.le_refl _) _), hpp.imp id (fun h => by have h1 := HM0.out.1; have h2 : wr.heap.size ≤ p7 := h; omega), hz'.1, hout, HF.out⟩
              | exact ⟨_, p7, c7, rfl, rfl, by simpa using heap_set_self y 0 (.slice (some ⟨p7, 0, none⟩) 4 c7), hV7.only ((Only.refl _ _).set 0 _) (by have h1 := HM0.out; rcases hpp with q1 | q1; omega; simp at q1; omega), hpp.imp id (fun h => by have h1 := HM0.out.1; simp at h; omega), Nat.le_of_eq HM0.out.1.symm, hout, HF.out⟩
        case rest =>
          obtain ⟨Z, p7, c7, rfl, rfl, hZ, hV7, hpp, hMZ, hout, hbX⟩ := hcut
          obtain ⟨wX, hwX⟩ : ∃ W0, W0 = wc := ⟨_, rfl⟩
          subst hwX
          have H1 := HW1.out.mem.below (by rw [HM0.out.1]; exact hbX)
          have hp7 : p7 < Y ∨ Y + 3 < p7 := by
            rcases hpp with q1 | q1
            · rw [q1]; exact HK.out.2.2.1
            · omega
          have hp7o : u5.ownBlock ≠ some p7 := by
            rcases hpp with q1 | q1
            · rw [q1]; exact HK.out.2.2.2.1
            · intro e
              have h1 := (HW1.out.mem.row.lt p7 e).2
              have h2 := HM0.out.1
              omega
          have HT := H1.turn hV7 hp7 hp7o
          have H9 := Lib.hid (HT.set9 (q * 3 + 2) (.string (outS z.stp V)))
          obtain ⟨p9, c9, -, hY9, -, -⟩ := H1.v
          have z0 := cell_atF hZ 0 (v := .slice (some ⟨p7, 0, none⟩) 4 c7) rfl
          have y1 := cell_atF hY9 0 (v := .slice (some ⟨p9, 0, none⟩) 4 c9) rfl
          have yf : ∀ i, wX.frozen? ⟨Y, i, none⟩ = false := fun i => by simp [World.frozen?, hY9]
          have i2 := H1.a9.cell (k := q * 3 + 2) (by omega)
          have if2 := H1.a9.frozen (q * 3 + 2)
          have i3 := HT.a9.cell (k := q * 3 + 2) (by omega)
          have if3 := HT.a9.frozen (q * 3 + 2)
          have HO := Lib.hid hout
          clear H1 HT hZ hV7 hpp hout hbX hp7 hp7o hY9 y0 a0 a1 a2 a3 a4 p0
          go_upto_region 20 with fail
          generalize (wX.setCell ⟨Y, 0, none⟩ (.slice (some ⟨p7, 0, none⟩) 4 c7)).setCell ⟨Y + 1 + 1 + 1, q * 3 + 2, none⟩ (.string (outS z.stp V)) = w19 at *
          have p1 := H9.out.a7.cell hq4
          have f7 := H9.out.a7.frozen q
          rw [hP] at p1
          clear z0 y1 yf i2 if2 i3 if3
          go_wp2_with fail
          go_roundw
          case rel => exact ⟨j + 1, ids, by omega, by omega, rfl, by go_num, Lib.hid ⟨E, _, _, _, _, f8, _, by omega, by omega, HW1.out.did hq4 hP (by unfold NV; omega) (by rw [hz]; exact HO.out) (by rw [hz]; exact H9.out)⟩⟩
          case measure => exact meas_60H hi2
      · rw [hP] at p0
        have e6 : wr.cell? ⟨b0, off + j * 7 + 6, none⟩ = some (.bool x.mute) := HX.out.2 6 (.bool x.mute) rfl
        have f7 := HW1.out.mem.a7.frozen q
        cases hmu : x.mute
        · rw [hmu] at e6
          have i0' := HW1.out.mem.a9.cell (k := q * 3) (by omega)
          have i2' := HW1.out.mem.a9.cell (k := q * 3 + 2) (by omega)
          rw [HW1.out.c9 q hq4 (by omega)] at i0'
          rw [HW1.out.d9 q hq4 hP] at i2'
          have HROW := Lib.hid HW1.out.mem.row
          have HBIG := Lib.hid HW1.out.mem.big
          obtain ⟨z, hz⟩ : ∃ z, op q = z := ⟨_, rfl⟩
          rw [hz] at i0' i2'
          have hqi : (q : Int) < 4 := by omega
          have hqn : ¬ (q : Int) < 0 := by omega
          have hql : q < 4 := hq4
          go_upto_region 9 with fail
          go_region_law (first | (refine step_app Try.underlying23 hi hz0 hz1 hz2 rfl (by decide) rfl (.tmp 48) (.tmp 58) rfl N u5 E.length (evCH E) rfl (owns_below HROW.out (by go_grown)) _ 1 (evCH [z.ans]) rfl (SR.lit _ _ #[.bool true, .int .i64 z.id, .int .i64 5, .int .i64 0, .int .i64 0, .int .i64 0, .string ⟨#[]⟩, .bool false, .int .i64 0, .string z.out] 10 1 (by decide) rfl) (evC_oneH _) (by unfold maxLen; omega) (by omega) (by have := HBIG.out; simp; omega) ?_; intro v' w11 hown hgr))
          all_goals
            have HF := Lib.hid (HM.app (x := z.ans) (HW1.out.mem.below (by go_grown)) HW1.out.hs.n hgr hown)
            have p0 := HF.out.a7.cell hq4
            have f7 := HF.out.a7.frozen q
            rw [hP] at p0
            clear hgr hown i0' i2'
            go_wp2_with fail
            go_roundw
            case rel => exact ⟨j + 1, ids, by omega, by omega, rfl, by go_num, Lib.hid ⟨_, V, _, updF P q 0, op, f8, f9, by omega, by simp; omega, HW1.out.tell hq4 hP (by omega) (by rw [hz]; exact HF.out)⟩⟩
            case measure => exact meas_60H hi2
        · rw [hmu] at e6
          go_wp2_with fail
          go_roundw
          case rel => exact ⟨j + 1, ids, by omega, by omega, rfl, by go_num, Lib.hid ⟨E, V, ops, updF P q 0, op, f8, f9, by omega, by omega, HW1.out.mute⟩⟩
          case measure => exact meas_60H hi2
    · have hout : ¬ ((j : Int) < (len : Int) ∧ (j : Int) < 60) := fun h => hin ⟨by omega, h.2⟩
      go_wp2_with fail
      all_goals
        go_ret
        obtain ⟨E, V, ops, P, op, f8, f9, hids, hEl, HW0⟩ := HRel.out
        exact ⟨_, E, V, ops, rfl, HW0.hs, fun y hy => by have := HW0.mks y hy; exact ⟨this.1, by omega, this.2.2⟩, by omega, HW0.ok, elts_sr (c := Ev.c) (sz := 10) (rs := E) (fun x => rfl) (SR.owns HW0.mem.row), HW0.mem.low.mono (Nat.le_of_eq hN)⟩
end Go.Proofs.Ytodjlaapmbnahaa
