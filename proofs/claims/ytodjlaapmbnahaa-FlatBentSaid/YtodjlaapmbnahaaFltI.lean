/-
  tarnref35: Do, of what may be asked for.
-/
import Derived.Test.YtodjlaapmbnahaaFltH
namespace Go.Proofs.Ytodjlaapmbnahaa
open Go.RowKit
set_option linter.unusedVariables false
set_option linter.unusedSimpArgs false

theorem VAt.set {p cap : Nat} {L : List ByteArray} {w : World} (h : VAt p cap L w) {j : Nat} (hj : j < L.length) (S : ByteArray) : VAt p cap (L.set j S) (w.setCell ⟨p, j, none⟩ (.string S)) := by
  have hx := h.at_ hj
  have hat := fun {i : Nat} (hi : i < L.length) => h.at_ hi
  refine ⟨by rw [List.length_set]; exact h.1, h.2.1, ?_, by simp; exact h.2.2.2⟩
  refine ⟨_, cap, by rw [List.length_set], by rw [List.length_set]; exact h.1, h.2.1, by simp [sCellsF], ?_⟩
  refine .inr ⟨p, 0, rfl, by simp; exact h.2.2.2, fun i u hi => ?_⟩
  rw [Nat.zero_add]
  have hil : i < L.length := by
    rcases Nat.lt_or_ge i L.length with h1 | h1
    · exact h1
    · rw [List.getElem?_eq_none (by simp [sCellsF]; exact h1)] at hi; cases hi
  by_cases e : i = j
  · subst e
    rw [World.cell?_setCell_same _ _ _ hx]
    rw [← hi]; simp [sCellsF, hj]
  · rw [World.cell?_setCell_other _ _ _ _ (by simp; try omega), hat hil, ← hi]
    simp only [sCellsF, List.getElem?_map, List.getElem?_set, List.getElem?_eq_getElem hil]
    rw [if_neg (fun h : j = i => e h.symm)]
    rfl
theorem wrap_sm (z : Int) (h0 : 0 ≤ z) (h : z ≤ 1000) : wrap64 z = z := by unfold wrap64; omega
def RDoP (L : List ByteArray) (W : Int) (q m : Nat) (D : ByteArray) (w : World) (ev : Ending) (w' : World) : Prop :=
  ∃ p cap, ev = .returned (.tuple #[.agg #[.slice (some ⟨p, 0, none⟩) L.length cap], .string ⟨(outL W q L m).toArray⟩, .bool true]) ∧ VAt p cap (doL W q D L m) w' ∧ w.heap.size ≤ p ∧ Below w.heap.size w w'
structure RRel (p cap : Nat) (L : List ByteArray) (W A Ln : Int) (D : ByteArray) (S : Bool) (q k : Nat) (w wr : World) : Prop where
  row : VAt p cap (doL W q D L k) wr
  frz : ∀ j, wr.frozen? ⟨p, j, none⟩ = false
  below : Below w.heap.size w wr
  ask : wr.heap[w.heap.size + 1]? = some (.cells #[.int .i64 W, .int .i64 A, .int .i64 Ln, .string D, .bool S] 33)
  res : wr.heap[w.heap.size + 1 + 1]? = some (.cells #[.slice none 0 0] 47)
  le : w.heap.size + 3 ≤ p
theorem RRel.write {p cap : Nat} {L : List ByteArray} {W A Ln : Int} {D : ByteArray} {S : Bool} {q k m : Nat} {w wr : World} (h : RRel p cap L W A Ln D S q k w wr) (hW : W ≠ 0) (hk : k < m) (hq : q + m ≤ L.length) :
    RRel p cap L W A Ln D S q (k + 1) w (wr.setCell ⟨p, q + k, none⟩ (.string (partD W D k))) := by
  have hle := h.le
  have hlt := h.row.2.2.2
  refine ⟨?_, fun j => by rw [World.frozen?_setCell]; exact h.frz j, h.below.setCell (by show w.heap.size ≤ p; omega) _, ?_, ?_, hle⟩
  · rw [doL, if_neg hW]
    exact h.row.set (by rw [doL_len]; omega) _
  · exact (Below.heap_setCell _ _ _ _ (by show w.heap.size + 1 ≠ p; omega)).trans h.ask
  · exact (Below.heap_setCell _ _ _ _ (by show w.heap.size + 1 + 1 ≠ p; omega)).trans h.res
theorem rrel_end {p cap : Nat} {L : List ByteArray} {W A Ln : Int} {D : ByteArray} {S : Bool} {q k : Nat} {w wr : World} (h : RRel p cap L W A Ln D S q k w wr) (v : Value) :
    (wr.setCell ⟨w.heap.size + 1 + 1, 0, none⟩ v).heap[w.heap.size + 1 + 1]? = some (.cells #[v] 47) ∧ VAt p cap (doL W q D L k) (wr.setCell ⟨w.heap.size + 1 + 1, 0, none⟩ v) ∧ w.heap.size ≤ p ∧ Below w.heap.size w (wr.setCell ⟨w.heap.size + 1 + 1, 0, none⟩ v) := by
  have hle := h.le
  exact ⟨heap_set_self h.res 0 _, h.row.only ((Only.refl _ _).set 0 _) (by omega), by omega, h.below.setCell (by show w.heap.size ≤ w.heap.size + 1 + 1; omega) _⟩
set_option maxHeartbeats 6400000 in
set_option maxRecDepth 100000 in
theorem rdo (p cap : Nat) (L : List ByteArray) (W A Ln : Int) (q m : Nat) (D : ByteArray) (S : Bool) (w : World) (hV : VAt p cap L w) (hA : (Lit.int .i64 A).wf = true) (hLn : (Lit.int .i64 Ln).wf = true) (hD : D.size ≤ maxLen) (hB : Blks L) (hn : L.length ≤ 64) (hn0 : 0 < L.length) (hm : AskMay W A Ln D L.length)
    (hW : W = 0 ∨ W = 1 ∨ W = 2 ∨ W = 3) (h3 : W = 3 → m = 0) (hz : W ≠ 3 → A = ((32 * q : Nat) : Int) ∧ askSz W Ln D = ((32 * m : Nat) : Int)) :
    Calls Try.prog 18 #[.agg #[.slice (some ⟨p, 0, none⟩) L.length cap], .agg (askA W A Ln D S)] w (RDoP L W q m D w) := by
  obtain ⟨i0, hi, hz0, hz1, hz2⟩ := info_parts info_strF
  have c1 := fun w => rmay35 W A Ln D S L.length w hn hA hLn hD
  have hd : decide (AskMay W A Ln D L.length) = true := by simpa using hm
  rw [hd] at c1
  have hq : W ≠ 3 → q + m ≤ L.length ∧ m ≤ 4 ∧ 1 ≤ m := by
    intro h
    obtain ⟨z1, z2⟩ := hz h
    have hin : Inside A (askSz W Ln D) L.length := hm.elim (fun h' => absurd h' h) (fun h => h.2.2)
    rw [z1, z2] at hin
    unfold Inside at hin
    omega
  obtain ⟨Q, hQ⟩ : ∃ Q, A.tdiv 32 = Q := ⟨_, rfl⟩
  have hQq : W ≠ 3 → Q = (q : Int) := by
    intro h
    rw [← hQ, (hz h).1, div32]
  have hwf := wf_le hA
  have hQw : IntKind.i64.wrap Q = Q := by
    rw [IntKind.wrap_i64, ← hQ]
    have h1 := Int.tdiv_le_self 32 (a := A)
    have h2 : A.tdiv 32 ≤ 9223372036854775807 ∧ -9223372036854775808 ≤ A.tdiv 32 := by
      rcases (by omega : 0 ≤ A ∨ A < 0) with h | h
      · rw [Int.tdiv_eq_ediv_of_nonneg h]; omega
      · have h3 : (-(-A)).tdiv 32 = -((-A).tdiv 32) := Int.neg_tdiv (-A) 32
        rw [Int.neg_neg, Int.tdiv_eq_ediv_of_nonneg (by omega : 0 ≤ -A)] at h3
        rw [h3]; omega
    omega
  unfold askA at *
  obtain ⟨x0, x1, x2, hb, hzz⟩ := three_newF w (.cells #[.slice (some ⟨p, 0, none⟩) L.length cap] 47) (.cells #[.int .i64 W, .int .i64 A, .int .i64 Ln, .string D, .bool S] 33) (.cells #[.slice none 0 0] 47)
  have hV1 := hV.below hb
  obtain ⟨n, hnn⟩ : ∃ n, L.length = n := ⟨_, rfl⟩
  rw [hnn] at x0 c1 hb hzz x1 x2 hV1
  have H := Lib.hid (And.intro x0 (And.intro x1 (And.intro x2 (And.intro hb (And.intro hzz hV1)))))
  have HN := Lib.hid (And.intro hnn (And.intro hn (And.intro hq (And.intro hQq (And.intro hB (And.intro hz (And.intro h3 hn0)))))))
  unfold RDoP
  rw [hnn]
  clear x0 x1 x2 hb hzz hd hm hA hLn hD hV hV1 hnn hn hq hQq hB hz hwf h3 hn0
  go_enter Try.func18, Try.ntmps18
  go_upto_region 1 with fail
  generalize ((w.alloc (.cells #[.slice (some ⟨p, 0, none⟩) n cap] 47)).alloc (.cells #[.int .i64 W, .int .i64 A, .int .i64 Ln, .string D, .bool S] 33)).alloc (.cells #[.slice none 0 0] 47) = w1 at *
  have k0 := cell_atF H.out.2.1 0 (v := .int .i64 W) rfl
  have k1 := cell_atF H.out.2.1 1 (v := .int .i64 A) rfl
  have k2 := cell_atF H.out.2.1 2 (v := .int .i64 Ln) rfl
  have k3 := cell_atF H.out.2.1 3 (v := .string D) rfl
  have k4 := cell_atF H.out.2.1 4 (v := .bool S) rfl
  have v0 := cell_atF H.out.1 0 (v := .slice (some ⟨p, 0, none⟩) n cap) rfl
  go_wp2_with fail
  refine Calls.mono (c1 _) ?_
  rintro e w2 ⟨rfl, hb2⟩
  have H2 := Lib.hid (And.intro (below_at hb2 (lt_heap H.out.1) H.out.1) (And.intro (below_at hb2 (lt_heap H.out.2.1) H.out.2.1) (And.intro (below_at hb2 (lt_heap H.out.2.2.1) H.out.2.2.1) (And.intro (H.out.2.2.2.1.trans (hb2.mono H.out.2.2.2.1.size)) (And.intro (show w.heap.size + 3 ≤ w2.heap.size by have := hb2.size; have := H.out.2.2.2.2.1; omega) (H.out.2.2.2.2.2.below hb2))))))
  clear k0 k1 k2 k3 k4 v0 hb2 H c1
  have k0 := cell_atF H2.out.2.1 0 (v := .int .i64 W) rfl
  have k1 := cell_atF H2.out.2.1 1 (v := .int .i64 A) rfl
  have v0 := cell_atF H2.out.1 0 (v := .slice (some ⟨p, 0, none⟩) n cap) rfl
  go_wp2_with fail
  go_quiet (fail)
  go_upto_region 4 with fail
  obtain ⟨w3, hw3⟩ : ∃ w3, w2.drewN nq = w3 := ⟨_, rfl⟩
  have H3 := Lib.hid (show w3.heap[w.heap.size]? = some (.cells #[.slice (some ⟨p, 0, none⟩) n cap] 47) ∧ w3.heap[w.heap.size + 1]? = some (.cells #[.int .i64 W, .int .i64 A, .int .i64 Ln, .string D, .bool S] 33) ∧ w3.heap[w.heap.size + 1 + 1]? = some (.cells #[.slice none 0 0] 47) ∧ Below w.heap.size w w3 ∧ w.heap.size + 3 ≤ w3.heap.size ∧ VAt p cap L w3 from by
    subst hw3
    exact ⟨H2.out.1, H2.out.2.1, H2.out.2.2.1, below_drewN' H2.out.2.2.2.1 _, H2.out.2.2.2.2.1, H2.out.2.2.2.2.2.below (below_drewN' (Below.refl _ _) _)⟩)
  rw [hw3]
  clear hw3 H2 k0 k1 v0
  have hlt3 := lt_heap H3.out.1
  have v0 : (w3.alloc (.cells #[] 9)).cell? ⟨w.heap.size, 0, none⟩ = some (.slice (some ⟨p, 0, none⟩) n cap) := (World.cell?_alloc_lt w3 _ ⟨w.heap.size, 0, none⟩ hlt3).trans (cell_atF H3.out.1 0 rfl)
  have hr : SR (w3.alloc (.cells #[] 9)) (.slice (some ⟨p, 0, none⟩) n cap) 1 n (sCellsF L) := by
    have := (H3.out.2.2.2.2.2.below ((Below.refl _ _).alloc (Nat.le_refl _) (.cells #[] 9))).2.2.1
    rw [HN.out.1] at this
    exact this
  have HR := Lib.hid hr
  clear hr hlt3
  go_wp2_with (at_builtin; refine wp_app Try.underlying45 hi hz0 hz1 hz2 rfl (by decide) rfl (.tmp 23) (.tmp 25) rfl w3.heap.size _ 0 [] rfl ?c5 _ n (sCellsF L) rfl ?c6 ?c1 ?c2 ?c3 ?c4 ?_)
  case c5 => exact owns_emptyF w3
  case c6 => exact HR.out
  case c1 => exact sCellsF_one L
  case c2 => unfold maxLen; have := HN.out.1; have := HN.out.2.1; omega
  case c3 => have := HN.out.1; have := HN.out.2.1; omega
  case c4 => simp
  intro v' w4 hown hgr
  have hB34 : Below w3.heap.size w3 w4 := below_app ((Below.refl _ w3).alloc (Nat.le_refl _) _) hgr (owns_emptyF w3) (Nat.le_refl _) (by simp)
  rw [← HN.out.1] at hown
  obtain ⟨p', cap', rfl, hV4, hp', hf4⟩ := VAt.owns hown HN.out.2.2.2.2.2.2.2
  have HR0 := Lib.hid (show RRel p' cap' L W A Ln D S q 0 w w4 from ⟨hV4, hf4, H3.out.2.2.2.1.trans (hB34.mono H3.out.2.2.2.1.size), below_at hB34 (lt_heap H3.out.2.1) H3.out.2.1, below_at hB34 (lt_heap H3.out.2.2.1) H3.out.2.2.1, by have := H3.out.2.2.2.2.1; omega⟩)
  have k0 := cell_atF HR0.out.ask 0 (v := .int .i64 W) rfl
  rw [HN.out.1]
  clear hown hgr hB34 hV4 hp' hf4 H3 HR v0 hi hz0 hz1 hz2
  rcases hW with rfl | rfl | rfl | rfl
  · obtain ⟨hq1, hq2, hq3⟩ := HN.out.2.2.1 (by decide)
    obtain ⟨hA, hzz⟩ := HN.out.2.2.2.2.2.1 (by decide)
    obtain rfl : Q = (q : Int) := HN.out.2.2.2.1 (by decide)
    have hLz : Ln = ((32 * m : Nat) : Int) := by rw [← hzz]; rfl
    have hdm : (Ln).tdiv 32 = (m : Int) := by rw [hLz, div32]
    have hm4 : (m : Int) ≤ 4 := by omega
    have hn64 : (n : Int) ≤ 64 := by have := HN.out.1; have := HN.out.2.1; omega
    have HQ := Lib.hid (And.intro hq1 (And.intro hq2 (And.intro hq3 hLz)))
    clear hq1 hq2 hq3 hA hzz hLz hQ
    go_wp2_with fail
    go_loopw [7, 10] (fun o i wr => ∃ k : Nat, k ≤ m ∧ o = .string ⟨(outL 0 q L k).toArray⟩ ∧ i = .int .i64 (k : Int) ∧ Hid (RRel p' cap' L 0 A Ln D S q k w wr)) (fun _ i _ => m - (intOf i).toNat)
    case atStart => exact ⟨0, Nat.zero_le _, rfl, rfl, HR0⟩
    case round =>
      clear HR0 k0
      obtain ⟨k, hk, rfl, rfl, HR⟩ := hrel
      have k2 := cell_atF HR.out.ask 2 (v := .int .i64 Ln) rfl
      by_cases hkm : k < m
      · have hkm' : (k : Int) < (m : Int) := by omega
        obtain ⟨j, hj⟩ : ∃ j, q + k = j := ⟨_, rfl⟩
        have hjn : (j : Int) < (n : Int) := by have := HQ.out; have := HN.out.1; omega
        have hjz : (q : Int) + (k : Int) = (j : Int) := by omega
        have hjl : j < (doL 0 q D L k).length := by rw [doL_len]; have := HN.out.1; omega
        have hx := HR.out.row.at_ hjl
        have ff := HR.out.frz
        have hlen : (outL 0 q L k).length ≤ 128 := by
          have := outL_len (W := 0) HN.out.2.2.2.2.1 HQ.out.1 k hk
          have := HQ.out.2.1
          omega
        obtain ⟨SJ, hSJ⟩ : ∃ SJ, (doL 0 q D L k)[j] = SJ := ⟨_, rfl⟩
        have hss : SJ.size ≤ 32 := by rw [← hSJ]; exact Nat.le_of_eq (doL_blks HN.out.2.2.2.2.1 (m := k) (by intro h; cases h) (.inl rfl) k (Nat.le_refl _) _ (List.getElem_mem hjl))
        rw [hSJ] at hx
        have ho : (⟨(outL 0 q L k).toArray⟩ : ByteArray) ++ SJ = ⟨(outL 0 q L (k + 1)).toArray⟩ := by
          have hlt : q + k < L.length := by rw [hj]; have := HN.out.1; omega
          have e : SJ = ⟨L[q + k].data.toList.toArray⟩ := by
            subst hSJ hj
            simp only [doL_read]
            try exact str_ext (by simp)
          rw [e, str_append, outL, if_pos rfl, List.getD_eq_getElem?_getD, List.getElem?_eq_getElem hlt, Option.getD_some]
        have HS := Lib.hid (And.intro ho (And.intro hk hkm))
        have HRn := Lib.hid (show RRel p' cap' L 0 A Ln D S q (k + 1) w wr from ⟨by rw [doL, if_pos rfl]; exact HR.out.row, HR.out.frz, HR.out.below, HR.out.ask, HR.out.res, HR.out.le⟩)
        obtain ⟨OU, hOU⟩ : ∃ OU : ByteArray, (⟨(outL 0 q L k).toArray⟩ : ByteArray) = OU := ⟨_, rfl⟩
        have hou : OU.size ≤ 128 := by rw [← hOU]; show (outL 0 q L k).toArray.size ≤ 128; rw [List.size_toArray]; exact hlen
        rw [hOU] at HS
        rw [hOU]
        clear ho hk hkm hSJ hOU hlen
        go_wp2_with fail
        go_roundw
        case rel => exact ⟨k + 1, HS.out.2.2, by rw [HS.out.1], by simp, HRn⟩
        case measure =>
          have hm2 := meas_k HS.out.2.2
          exact hm2
      · obtain rfl : k = m := by omega
        clear hkm hk
        have z0 := cell_atF HR.out.res 0 (v := .slice none 0 0) rfl
        have zf : ∀ j, wr.frozen? ⟨w.heap.size + 1 + 1, j, none⟩ = false := fun j => by simp [World.frozen?, HR.out.res]
        have HE := Lib.hid (rrel_end HR.out (.slice (some ⟨p', 0, none⟩) n cap'))
        go_wp2_with fail
        generalize wr.setCell ⟨w.heap.size + 1 + 1, 0, none⟩ (.slice (some ⟨p', 0, none⟩) n cap') = wf at *
        have y0 := cell_atF HE.out.1 0 (v := .slice (some ⟨p', 0, none⟩) n cap') rfl
        refine bodyPost_ret (v := .tuple #[.agg #[.slice (some ⟨p', 0, none⟩) n cap'], .string ⟨(outL 0 q L k).toArray⟩, .bool true]) (by simp [results, Try.results18, go_sem, y0]) rfl ?_
        exact ⟨_, _, rfl, HE.out.2⟩
  · obtain ⟨hq1, hq2, hq3⟩ := HN.out.2.2.1 (by decide)
    obtain ⟨hA, hzz⟩ := HN.out.2.2.2.2.2.1 (by decide)
    obtain rfl : Q = (q : Int) := HN.out.2.2.2.1 (by decide)
    have hLz : (D.size : Int) = ((32 * m : Nat) : Int) := by rw [← hzz]; rfl
    have hdm : ((D.size : Int)).tdiv 32 = (m : Int) := by rw [hLz, div32]
    have hm4 : (m : Int) ≤ 4 := by omega
    have hn64 : (n : Int) ≤ 64 := by have := HN.out.1; have := HN.out.2.1; omega
    have HQ := Lib.hid (And.intro hq1 (And.intro hq2 (And.intro hq3 hLz)))
    clear hq1 hq2 hq3 hA hzz hLz hQ
    go_wp2_with fail
    go_loopw [11] (fun i wr => ∃ k : Nat, k ≤ m ∧ i = .int .i64 (k : Int) ∧ Hid (RRel p' cap' L 1 A Ln D S q k w wr)) (fun i _ => m - (intOf i).toNat)
    case atStart => exact ⟨0, Nat.zero_le _, rfl, HR0⟩
    case round =>
      clear HR0 k0
      obtain ⟨k, hk, rfl, HR⟩ := hrel
      have k3 := cell_atF HR.out.ask 3 (v := .string D) rfl
      by_cases hkm : k < m
      · have hkm' : (k : Int) < (m : Int) := by omega
        obtain ⟨j, hj⟩ : ∃ j, q + k = j := ⟨_, rfl⟩
        have hjn : (j : Int) < (n : Int) := by have := HQ.out; have := HN.out.1; omega
        have hjz : (q : Int) + (k : Int) = (j : Int) := by omega
        have hjl : j < (doL 1 q D L k).length := by rw [doL_len]; have := HN.out.1; omega
        have hx := HR.out.row.at_ hjl
        have ff := HR.out.frz
        have HK := Lib.hid (And.intro hk hkm)
        have HRn := Lib.hid (HR.out.write (m := m) (by decide) hkm HQ.out.1)
        rw [hj] at HRn
        have hD32 : (D.size : Int) = 32 * (m : Int) := by have := HQ.out.2.2.2; omega
        obtain ⟨lo, hlo⟩ : ∃ lo : Int, 32 * (k : Int) = lo := ⟨_, rfl⟩
        obtain ⟨hi, hhi⟩ : ∃ hi : Int, lo + 32 = hi := ⟨_, rfl⟩
        have hpd : partD 1 D k = D.extract lo.toNat hi.toNat := by
          rw [partD, if_pos rfl, show lo.toNat = 32 * k by omega, show hi.toNat = 32 * k + 32 by omega]
        rw [hpd] at HRn
        have hb0 : 0 ≤ lo := by omega
        have hb1 : hi ≤ (D.size : Int) := by have := HK.out; omega
        have hb2 : lo ≤ hi := by omega
        have hb3 : hi ≤ 1000 := by have := HQ.out; omega
        clear hpd hD32
        clear hk hkm
        go_wp2_with fail
        go_roundw
        case rel => exact ⟨k + 1, HK.out.2, by simp, HRn⟩
        case measure =>
          have hm2 := meas_k HK.out.2
          exact hm2
      · obtain rfl : k = m := by omega
        clear hkm hk
        have z0 := cell_atF HR.out.res 0 (v := .slice none 0 0) rfl
        have zf : ∀ j, wr.frozen? ⟨w.heap.size + 1 + 1, j, none⟩ = false := fun j => by simp [World.frozen?, HR.out.res]
        have HE := Lib.hid (rrel_end HR.out (.slice (some ⟨p', 0, none⟩) n cap'))
        go_wp2_with fail
        generalize wr.setCell ⟨w.heap.size + 1 + 1, 0, none⟩ (.slice (some ⟨p', 0, none⟩) n cap') = wf at *
        have y0 := cell_atF HE.out.1 0 (v := .slice (some ⟨p', 0, none⟩) n cap') rfl
        refine bodyPost_ret (v := .tuple #[.agg #[.slice (some ⟨p', 0, none⟩) n cap'], .string ⟨#[]⟩, .bool true]) (by simp [results, Try.results18, go_sem, y0]) rfl ?_
        exact ⟨_, _, by rw [outL_none (by decide)], HE.out.2⟩
  · obtain ⟨hq1, hq2, hq3⟩ := HN.out.2.2.1 (by decide)
    obtain ⟨hA, hzz⟩ := HN.out.2.2.2.2.2.1 (by decide)
    obtain rfl : Q = (q : Int) := HN.out.2.2.2.1 (by decide)
    have hLz : Ln = ((32 * m : Nat) : Int) := by rw [← hzz]; rfl
    have hdm : (Ln).tdiv 32 = (m : Int) := by rw [hLz, div32]
    have hm4 : (m : Int) ≤ 4 := by omega
    have hn64 : (n : Int) ≤ 64 := by have := HN.out.1; have := HN.out.2.1; omega
    have HQ := Lib.hid (And.intro hq1 (And.intro hq2 (And.intro hq3 hLz)))
    clear hq1 hq2 hq3 hA hzz hLz hQ
    go_wp2_with fail
    go_loopw [12] (fun i wr => ∃ k : Nat, k ≤ m ∧ i = .int .i64 (k : Int) ∧ Hid (RRel p' cap' L 2 A Ln D S q k w wr)) (fun i _ => m - (intOf i).toNat)
    case atStart => exact ⟨0, Nat.zero_le _, rfl, HR0⟩
    case round =>
      clear HR0 k0
      obtain ⟨k, hk, rfl, HR⟩ := hrel
      have k2 := cell_atF HR.out.ask 2 (v := .int .i64 Ln) rfl
      by_cases hkm : k < m
      · have hkm' : (k : Int) < (m : Int) := by omega
        obtain ⟨j, hj⟩ : ∃ j, q + k = j := ⟨_, rfl⟩
        have hjn : (j : Int) < (n : Int) := by have := HQ.out; have := HN.out.1; omega
        have hjz : (q : Int) + (k : Int) = (j : Int) := by omega
        have hjl : j < (doL 2 q D L k).length := by rw [doL_len]; have := HN.out.1; omega
        have hx := HR.out.row.at_ hjl
        have ff := HR.out.frz
        have HK := Lib.hid (And.intro hk hkm)
        have HRn := Lib.hid (HR.out.write (m := m) (by decide) hkm HQ.out.1)
        rw [hj] at HRn
        rw [show partD 2 D k = zeroL 32 from rfl] at HRn
        clear hk hkm
        go_wp2_with fail
        refine Calls.mono (zeros_any _) ?_
        rintro e wz ⟨rfl, rfl⟩
        go_wp2_with fail
        go_roundw
        case rel => exact ⟨k + 1, HK.out.2, by simp, HRn⟩
        case measure =>
          have hm2 := meas_k HK.out.2
          exact hm2
      · obtain rfl : k = m := by omega
        clear hkm hk
        have z0 := cell_atF HR.out.res 0 (v := .slice none 0 0) rfl
        have zf : ∀ j, wr.frozen? ⟨w.heap.size + 1 + 1, j, none⟩ = false := fun j => by simp [World.frozen?, HR.out.res]
        have HE := Lib.hid (rrel_end HR.out (.slice (some ⟨p', 0, none⟩) n cap'))
        go_wp2_with fail
        generalize wr.setCell ⟨w.heap.size + 1 + 1, 0, none⟩ (.slice (some ⟨p', 0, none⟩) n cap') = wf at *
        have y0 := cell_atF HE.out.1 0 (v := .slice (some ⟨p', 0, none⟩) n cap') rfl
        refine bodyPost_ret (v := .tuple #[.agg #[.slice (some ⟨p', 0, none⟩) n cap'], .string ⟨#[]⟩, .bool true]) (by simp [results, Try.results18, go_sem, y0]) rfl ?_
        exact ⟨_, _, by rw [outL_none (by decide)], HE.out.2⟩
  · obtain rfl : m = 0 := HN.out.2.2.2.2.2.2.1 rfl
    have z0 := cell_atF HR0.out.res 0 (v := .slice none 0 0) rfl
    have zf : ∀ j, w4.frozen? ⟨w.heap.size + 1 + 1, j, none⟩ = false := fun j => by simp [World.frozen?, HR0.out.res]
    have HE := Lib.hid (rrel_end HR0.out (.slice (some ⟨p', 0, none⟩) n cap'))
    go_wp2_with fail
    generalize w4.setCell ⟨w.heap.size + 1 + 1, 0, none⟩ (.slice (some ⟨p', 0, none⟩) n cap') = wf at *
    have y0 := cell_atF HE.out.1 0 (v := .slice (some ⟨p', 0, none⟩) n cap') rfl
    refine bodyPost_ret (v := .tuple #[.agg #[.slice (some ⟨p', 0, none⟩) n cap'], .string ⟨#[]⟩, .bool true]) (by simp [results, Try.results18, go_sem, y0]) rfl ?_
    exact ⟨_, _, rfl, HE.out.2⟩
end Go.Proofs.Ytodjlaapmbnahaa
