/-
  place.Mend.
-/
import Derived.Test.YtadejhlljdcocaaPlcG
namespace Go.Proofs.Ytadejhlljdcocaa
open Go.RowKit
set_option linter.unusedVariables false
set_option linter.unusedSimpArgs false

def fitN (n : Nat) (least : Nat) : Nat := min (max n least) 3
def mendM (u : Nat → Bool) (M C : List Int) : List Int := if (upK u 5).length = 0 then [] else fillL M (riseL u (ldF M C)) (fitN M.length 0)
def mendC (u : Nat → Bool) (M C : List Int) : List Int := if (upK u 5).length = 0 then [] else fillL C (riseL u (ldF M C)) (fitN C.length 1)
def MendPost (u : Nat → Bool) (M C : List Int) (w : World) (e : Ending) (w' : World) : Prop := ∃ v1 v2, e = .returned (.tuple #[v1, v2]) ∧ SR w' v1 1 (mendM u M C).length (nCells (mendM u M C)) ∧ SR w' v2 1 (mendC u M C).length (nCells (mendC u M C)) ∧ Below w.heap.size w w'
set_option maxHeartbeats 6400000 in
set_option maxRecDepth 100000 in
theorem pmend (u : Nat → Bool) (e b k : Int) (m c : Value) (M C : List Int) (hM : M.length ≤ 100) (hC : C.length ≤ 100) (w : World) (hm : SR w m 1 M.length (nCells M)) (hc : SR w c 1 C.length (nCells C)) :
    Calls Try.prog 56 #[.agg (confA e b k m c), .agg (upA u)] w (MendPost u M C w) := by
  obtain ⟨ma, mc, rfl, hmc, hmm⟩ := hm.form
  obtain ⟨ca, cc, rfl, hcc, hcm⟩ := hc.form
  have hb0 : Below w.heap.size w ((w.alloc (.cells (confA e b k (.slice ma M.length mc) (.slice ca C.length cc)) 31)).alloc (.cells (upA u) 111)) := ((Below.refl _ _).alloc (Nat.le_refl _) _).alloc (by simp) _
  have hx := pfar (heap_alloc_self w (.cells (confA e b k (.slice ma M.length mc) (.slice ca C.length cc)) 31)) (.cells (upA u) 111)
  have hy := heap_alloc_self (w.alloc (.cells (confA e b k (.slice ma M.length mc) (.slice ca C.length cc)) 31)) (.cells (upA u) 111)
  have hz : (w.alloc (.cells (confA e b k (.slice ma M.length mc) (.slice ca C.length cc)) 31)).heap.size = w.heap.size + 1 := by simp
  rw [hz] at hy
  have HMC := And.intro (hm.below hb0) (And.intro (hc.below hb0) hb0)
  unfold confA upA at *
  have HMC := Lib.hid HMC
  clear hm hc hb0 hz
  go_enter Try.func56, Try.ntmps56
  go_upto_region 1 with fail
  generalize (w.alloc (.cells #[.int .i64 e, .int .i64 b, .int .i64 k, .slice ma M.length mc, .slice ca C.length cc] 31)).alloc (.cells #[.bool (u 0), .bool (u 1), .bool (u 2), .bool (u 3), .bool (u 4)] 111) = w1 at *
  have c0 := pcell hx 0 (v := .int .i64 e) rfl
  have c1 := pcell hx 1 (v := .int .i64 b) rfl
  have c2 := pcell hx 2 (v := .int .i64 k) rfl
  have c3 := pcell hx 3 (v := .slice ma M.length mc) rfl
  have c4 := pcell hx 4 (v := .slice ca C.length cc) rfl
  have d0 := pcell hy 0 (v := .bool (u 0)) rfl
  have d1 := pcell hy 1 (v := .bool (u 1)) rfl
  have d2 := pcell hy 2 (v := .bool (u 2)) rfl
  have d3 := pcell hy 3 (v := .bool (u 3)) rfl
  have d4 := pcell hy 4 (v := .bool (u 4)) rfl
  have hlt := lt_heap hy
  obtain ⟨N, hN⟩ : ∃ N, w1.heap.size = N := ⟨_, rfl⟩
  rw [hN] at hlt
  have hlt2 : w.heap.size < N := by omega
  have HN := Lib.hid hN
  have HXY := Lib.hid (And.intro hx hy)
  obtain ⟨LF, hLF⟩ : ∃ LF, ldF M C = LF := ⟨_, rfl⟩
  have HLF := Lib.hid hLF
  have cl : ∀ w', (N ≤ w'.heap.size ∧ Below N w1 w' ∧ ∀ b o, b < N → w'.cell? ⟨b, o, none⟩ = w1.cell? ⟨b, o, none⟩) → Calls Try.prog 61 #[.agg #[.int .i64 e, .int .i64 b, .int .i64 k, .slice ma M.length mc, .slice ca C.length cc]] w' fun ev w'' => ev = .returned (.agg #[.int .i64 (LF 0), .int .i64 (LF 1), .int .i64 (LF 2), .int .i64 (LF 3), .int .i64 (LF 4)]) ∧ Stays N w' w'' := fun w' h =>
    (pload e b k _ _ M C w' (sr_keepsP HMC.out.1 HN.out h) (sr_keepsP HMC.out.2.1 HN.out h)).mono fun ev w'' ⟨he, hb⟩ => ⟨by rw [he, HLF.out]; rfl, stays_of h.1 hb⟩
  have cr : ∀ w', (N ≤ w'.heap.size ∧ Below N w1 w' ∧ ∀ b o, b < N → w'.cell? ⟨b, o, none⟩ = w1.cell? ⟨b, o, none⟩) → Calls Try.prog 109 #[.agg #[.bool (u 0), .bool (u 1), .bool (u 2), .bool (u 3), .bool (u 4)], .agg #[.int .i64 (LF 0), .int .i64 (LF 1), .int .i64 (LF 2), .int .i64 (LF 3), .int .i64 (LF 4)]] w' fun ev w'' => (∃ v, ev = .returned v ∧ SR w'' v 1 (riseL u LF).length (nCells (riseL u LF))) ∧ Stays N w' w'' := fun w' h =>
    (prising u LF w').mono fun ev w'' ⟨v, he, hs, hb⟩ => ⟨⟨v, he, hs⟩, stays_of h.1 hb⟩
  clear hx hy hN hLF
  go_region_held3 (fun w' => N ≤ w'.heap.size ∧ Below N w1 w' ∧ ∀ b o, b < N → w'.cell? ⟨b, o, none⟩ = w1.cell? ⟨b, o, none⟩) (first | assumption | exact keeps_start HN.out | exact keeps_next (by assumption) (by assumption)) (first | (go_at_call 61; refine Calls.mono (cl _ (by assumption)) ?_; rintro ev wz ⟨rfl, hz⟩) | (go_at_call 109; refine Calls.mono (cr _ (by assumption)) ?_; rintro ev wy ⟨⟨v, rfl, hv⟩, hz2⟩))
  rename_i hfin
  have HF := Lib.hid (And.intro hv (And.intro hfin hfin.2.1))
  obtain ⟨hrn, hrl, hrm⟩ := rise_ok u LF
  obtain ⟨av, pv, rfl, hp1, hp2⟩ := hv.form
  unfold maxLen at hp2
  have hul := upK_le u 5
  obtain ⟨rn, hrn2⟩ : ∃ rn, (riseL u LF).length = rn := ⟨_, rfl⟩
  rw [hrn2] at HF hp1 hrl
  have HRN := Lib.hid hrn2
  have HRL := Lib.hid hrl
  have hrn5 : rn ≤ 5 := by omega
  obtain ⟨W0, hW0⟩ : ∃ W0, W0 = wy := ⟨_, rfl⟩
  subst hW0
  rw [hrn2]
  clear hv hz hz2 hfin cl cr c0 c1 c2 c3 c4 d0 d1 d2 d3 d4 hrn hrl hrm hrn2 hul
  by_cases hr0 : rn = 0
  · subst hr0
    have hup0 : (upK u 5).length = 0 := HRL.out.symm
    have HE := Lib.hid (show SR W0 (.slice none 0 0) 1 (mendM u M C).length (nCells (mendM u M C)) ∧ SR W0 (.slice none 0 0) 1 (mendC u M C).length (nCells (mendC u M C)) ∧ Below w.heap.size w W0 from by
      unfold mendM mendC
      rw [if_pos hup0, if_pos hup0]
      exact ⟨SR.nil_ _ _, SR.nil_ _ _, HMC.out.2.2.trans (HF.out.2.2.mono (by have := HMC.out.2.2.size; have := HN.out; omega))⟩)
    clear hup0
    go_wp2_with fail
    go_returns
    exact ⟨_, _, rfl, HE.out⟩
  · have hx2 := below_at HF.out.2.2 hlt2 HXY.out.1
    have c3 := pcell hx2 3 (v := .slice ma M.length mc) rfl
    have c4 := pcell hx2 4 (v := .slice ca C.length cc) rfl
    obtain ⟨N2, hN2⟩ : ∃ N2, W0.heap.size = N2 := ⟨_, rfl⟩
    have HN2 := Lib.hid hN2
    have hlt3 : w.heap.size < N2 := by have := lt_heap hx2; omega
    have sM : SR W0 (.slice ma M.length mc) 1 M.length (nCells M) := sr_keepsP HMC.out.1 HN.out HF.out.2.1
    have sC : SR W0 (.slice ca C.length cc) 1 C.length (nCells C) := sr_keepsP HMC.out.2.1 HN.out HF.out.2.1
    have HS := Lib.hid (And.intro sM sC)
    have hrl5 : (riseL u LF).length ≤ 100 := by have := HRN.out; omega
    obtain ⟨R1, hR1⟩ : ∃ R1, fillL M (riseL u LF) (fitN M.length 0) = R1 := ⟨_, rfl⟩
    obtain ⟨R2, hR2⟩ : ∃ R2, fillL C (riseL u LF) (fitN C.length 1) = R2 := ⟨_, rfl⟩
    have cf1 : ∀ w', (N2 ≤ w'.heap.size ∧ Below N2 W0 w' ∧ ∀ b o, b < N2 → w'.cell? ⟨b, o, none⟩ = W0.cell? ⟨b, o, none⟩) → Calls Try.prog 110 #[.slice ma M.length mc, .slice av rn pv, .int .i64 0] w' fun ev w'' => (∃ v, ev = .returned v ∧ SR w'' v 1 R1.length (nCells R1)) ∧ Stays N2 w' w'' ∧ Below w'.heap.size w' w'' := fun w' h =>
      (pfill M (riseL u LF) 0 (fitN M.length 0) (by unfold fitN; omega) hM hrl5 w' _ _ (sr_keepsP HS.out.1 HN2.out h) (by rw [HRN.out]; exact sr_keepsP HF.out.1 HN2.out h)).mono fun ev w'' ⟨v, he, hs, hb⟩ => ⟨⟨v, he, by rw [← hR1]; exact hs⟩, stays_of h.1 hb, hb⟩
    have cf2 : ∀ w', (N2 ≤ w'.heap.size ∧ Below N2 W0 w' ∧ ∀ b o, b < N2 → w'.cell? ⟨b, o, none⟩ = W0.cell? ⟨b, o, none⟩) → Calls Try.prog 110 #[.slice ca C.length cc, .slice av rn pv, .int .i64 1] w' fun ev w'' => (∃ v, ev = .returned v ∧ SR w'' v 1 R2.length (nCells R2)) ∧ Stays N2 w' w'' ∧ Below w'.heap.size w' w'' := fun w' h =>
      (pfill C (riseL u LF) 1 (fitN C.length 1) (by unfold fitN; omega) hC hrl5 w' _ _ (sr_keepsP HS.out.2 HN2.out h) (by rw [HRN.out]; exact sr_keepsP HF.out.1 HN2.out h)).mono fun ev w'' ⟨v, he, hs, hb⟩ => ⟨⟨v, he, by rw [← hR2]; exact hs⟩, stays_of h.1 hb, hb⟩
    have hup0 : ¬ (upK u 5).length = 0 := by have := HRL.out; omega
    have hmM : mendM u M C = R1 := by unfold mendM; rw [if_neg hup0, HLF.out, hR1]
    have hmC : mendC u M C = R2 := by unfold mendC; rw [if_neg hup0, HLF.out, hR2]
    have HMM := Lib.hid (And.intro hmM hmC)
    have HB0 := Lib.hid (HMC.out.2.2.trans (HF.out.2.2.mono (by have := HMC.out.2.2.size; have := HN.out; omega)))
    clear sM sC hx2 hN2 hR1 hR2 hup0 hmM hmC hrl5
    go_upto_region 4 with fail
    go_region_held3 (fun w' => N2 ≤ w'.heap.size ∧ Below N2 W0 w' ∧ ∀ b o, b < N2 → w'.cell? ⟨b, o, none⟩ = W0.cell? ⟨b, o, none⟩) (first | assumption | exact keeps_start HN2.out | exact keeps_next (by assumption) (by assumption)) (first | (go_at_call 110; ((with_reducible refine Calls.mono (cf1 _ (by assumption)) ?_); rintro ev wb1 ⟨⟨v1, rfl, hv1⟩, hz1, hy1⟩)) | (go_at_call 110; ((with_reducible refine Calls.mono (cf2 _ (by assumption)) ?_); rintro ev wb2 ⟨⟨v2, rfl, hv2⟩, hz2, hy2⟩)))
    rename_i hfin2
    have HE := Lib.hid (show SR wb2 v1 1 (mendM u M C).length (nCells (mendM u M C)) ∧ SR wb2 v2 1 (mendC u M C).length (nCells (mendC u M C)) ∧ Below w.heap.size w wb2 from by
      rw [HMM.out.1, HMM.out.2]
      exact ⟨hv1.below hy2, hv2, HB0.out.trans (hfin2.2.1.mono (by have := HB0.out.size; have := HN2.out; omega))⟩)
    clear hv1 hv2 hz1 hz2 hy1 hy2 hfin2 cf1 cf2 c3 c4
    go_wp2_with fail
    go_returns
    exact ⟨_, _, rfl, HE.out⟩
end Go.Proofs.Ytadejhlljdcocaa
