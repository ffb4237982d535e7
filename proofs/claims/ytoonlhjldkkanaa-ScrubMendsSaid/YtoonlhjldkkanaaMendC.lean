/-
  scrub.Mend's contract; many lists that came in.
-/
import Derived.Test.YtoonlhjldkkanaaMendB
namespace Go.Proofs.Ytoonlhjldkkanaa
open Go.RowKit
set_option linter.unusedVariables false
set_option linter.unusedSimpArgs false

theorem fits_lists {w : World} {a : Option Addr} {len cap : Nat} (h : Fits w (.slice (.slice heldSh)) [.slice a len cap]) : ∃ (Rs : List (List HI)) (vs : List Value), Rs.length = len ∧ SRR w (.slice a len cap) vs Rs ∧ ∀ R ∈ Rs, ∀ x ∈ R, Raw x := by
  obtain ⟨hlc, hcm, hel⟩ := h.slice
  rcases Nat.eq_zero_or_pos len with h0 | h0
  · subst h0
    exact ⟨[], [], rfl, ⟨⟨a, cap, rfl, hlc, hcm, rfl, .inl rfl⟩, rfl, fun j L u h _ => by simp at h⟩, by simp⟩
  · obtain ⟨b, off, rfl, hb, hi⟩ := hel.resolve_left (by omega)
    have hx : ∀ i, i < len → ∃ (R : List HI) (u : Value), (∀ x ∈ R, Raw x) ∧ SR w u 3 R.length (hCells R) ∧ w.cell? ⟨b, off + i, none⟩ = some u := fun i hlt => by
      obtain ⟨ys, hl, hc, hf⟩ := hi i hlt
      have hf2 := hf
      obtain ⟨a2, len2, cap2, rfl, _⟩ := hf
      obtain ⟨R, rfl, h1, h2⟩ := fits_held hf2
      have hc0 := hc 0 _ rfl
      simp only [Sh.size, Nat.mul_one, Nat.add_zero] at hc0
      exact ⟨R, _, h2, h1, hc0⟩
    have hrs : ∀ n, n ≤ len → ∃ (Rs : List (List HI)) (vs : List Value), Rs.length = n ∧ vs.length = n ∧ (∀ R ∈ Rs, ∀ x ∈ R, Raw x) ∧ (∀ (j : Nat) L u, Rs[j]? = some L → vs[j]? = some u → SR w u 3 L.length (hCells L)) ∧ ∀ (j : Nat) u, vs[j]? = some u → w.cell? ⟨b, off + j, none⟩ = some u := by
      intro n
      induction n with
      | zero => exact fun _ => ⟨[], [], rfl, rfl, by simp, fun j L u h _ => by simp at h, fun j u h => by simp at h⟩
      | succ n ih =>
        intro hn
        obtain ⟨Rs, vs, h1, h2, h3, h4, h5⟩ := ih (by omega)
        obtain ⟨R, u, hr, hs, hc⟩ := hx n (by omega)
        refine ⟨Rs ++ [R], vs ++ [u], by simp [h1], by simp [h2], fun S hS => ?_, fun j L y e1 e2 => ?_, fun j y e => ?_⟩
        · rcases List.mem_append.1 hS with q | q
          · exact h3 S q
          · rw [List.mem_singleton.1 q]; exact hr
        · rcases Nat.lt_trichotomy j n with q | q | q
          · rw [List.getElem?_append_left (by omega)] at e1 e2
            exact h4 j L y e1 e2
          · subst q
            rw [List.getElem?_append_right (by omega), h1, Nat.sub_self] at e1
            rw [List.getElem?_append_right (by omega), h2, Nat.sub_self] at e2
            simp only [List.getElem?_cons_zero, Option.some.injEq] at e1 e2
            subst e1 e2
            exact hs
          · have := (List.getElem?_eq_some_iff.1 e1).1
            simp [h1] at this
            omega
        · rcases Nat.lt_trichotomy j n with q | q | q
          · rw [List.getElem?_append_left (by omega)] at e
            exact h5 j y e
          · subst q
            rw [List.getElem?_append_right (by omega), h2, Nat.sub_self] at e
            simp only [List.getElem?_cons_zero, Option.some.injEq] at e
            subst e
            exact hc
          · have := (List.getElem?_eq_some_iff.1 e).1
            simp [h2] at this
            omega
    obtain ⟨Rs, vs, h1, h2, h3, h4, h5⟩ := hrs len (Nat.le_refl _)
    refine ⟨Rs, vs, h1, ⟨?_, by omega, h4⟩, h3⟩
    rw [h1]
    exact ⟨some ⟨b, off, none⟩, cap, rfl, hlc, hcm, by omega, .inr ⟨b, off, rfl, hb, h5⟩⟩
noncomputable def lkM (W I : List HI) : List HI := (lacksL I W).2
set_option maxHeartbeats 3200000 in
set_option maxRecDepth 400000 in
theorem smend (Ls : List (List HI)) (hf : Fine Ls) (hn : Ls.length ≤ 5) (w : World) (v : Value) (vs : List Value) (hv : SRR w v vs Ls) :
    Calls Try.prog 56 #[v] w fun e w' => ∃ u v' vs', e = .returned (.tuple #[u, v']) ∧ SR w' u 3 (allL Ls).length (hCells (allL Ls)) ∧ SRR w' v' vs' (Ls.map (lkM (allL Ls))) ∧ Below w.heap.size w w' := by
  obtain ⟨i0, hi, hz0, hz1, hz2⟩ := info_parts info_list
  obtain ⟨a, cap, rfl, hlc, hcm⟩ := hv.1.form
  unfold maxLen at hcm
  obtain ⟨w1, w2, -⟩ := allL_fine _ rfl hf
  have HWS := Lib.hid w1
  have HWM := Lib.hid w2
  have HF := Lib.hid hf
  have HV := Lib.hid hv
  clear hv hf w1 w2
  go_enter Try.func56, Try.ntmps56
  go_wp2_with fail
  go_loopw [4, 12] (fun o i wr => ∃ j : Nat, j ≤ Ls.length ∧ i = .int .i64 j ∧ Hid (SR wr o 3 (allL (Ls.take j)).length (hCells (allL (Ls.take j))) ∧ Below w.heap.size w wr)) (fun _ i _ => Ls.length - (intOf i).toNat)
  case atStart => exact ⟨0, Nat.zero_le _, rfl, Lib.hid ⟨SR.nil_ _ _, Below.refl _ _⟩⟩
  case round =>
    obtain ⟨j, hj, rfl, HL⟩ := hrel
    by_cases hlt : j < Ls.length
    · obtain ⟨L, hL⟩ : ∃ L, Ls[j]? = some L := ⟨_, List.getElem?_eq_getElem hlt⟩
      obtain ⟨b, off, u, rfl, -, c0, hu⟩ := srr_at (HV.out.below HL.out.2) hL
      obtain ⟨a2, cap2, rfl, -, -⟩ := hu.form
      obtain ⟨f1, f2, -⟩ := allL_fine _ rfl (fine_take HF.out j)
      obtain ⟨l1, l2⟩ := fine_at HF.out hL
      have cm := imerge (allL (Ls.take j)) L f1.ok l1.ok wr _ _ HL.out.1 hu
      rw [← allL_next hL] at cm
      obtain ⟨oa, ocap, rfl, -, -⟩ := HL.out.1.form
      clear hL hu f1 f2 l1 l2
      go_wp2_with fail
      refine Calls.mono cm ?_
      rintro e w3 ⟨v3, rfl, ho3, hb3⟩
      have HO3 := Lib.hid (SR.owns ho3)
      have HB3 := Lib.hid (HL.out.2.trans (hb3.mono HL.out.2.size))
      clear ho3 hb3 cm
      go_wp2_with fail
      go_roundw
      case rel => exact ⟨j + 1, by omega, by go_num, Lib.hid ⟨HO3.out, HB3.out⟩⟩
      case measure => simp [intOf]; omega
    · obtain rfl : j = Ls.length := by omega
      have HQ := HL.out
      rw [List.take_length] at HQ
      have HA := Lib.hid HQ.1
      have HB := Lib.hid HQ.2
      obtain ⟨oa, ocap, rfl, -, -⟩ := HQ.1.form
      obtain ⟨W, hW⟩ : ∃ W, allL Ls = W := ⟨_, rfl⟩
      rw [hW] at HA HWS HWM
      try rw [hW]
      have HWE := Lib.hid hW
      clear HQ hW HL
      obtain ⟨WA, hWA⟩ : ∃ W0, W0 = wr := ⟨_, rfl⟩
      subst hWA
      go_wp2_with fail
      go_loopw [7, 22] (fun o i w2 => ∃ (j : Nat) (us : List Value), j ≤ Ls.length ∧ i = .int .i64 j ∧ Hid (OwnV w2 WA.heap.size o us ((Ls.take j).map (lkM W)) ∧ Below WA.heap.size WA w2)) (fun _ i _ => Ls.length - (intOf i).toNat)
      case atStart => exact ⟨0, [], Nat.zero_le _, rfl, Lib.hid ⟨OwnV.nil _ _, Below.refl _ _⟩⟩
      case round =>
        obtain ⟨j, us, hj, rfl, HL⟩ := hrel
        have hwr := HL.out.2.size
        by_cases hlt2 : j < Ls.length
        · obtain ⟨L, hL⟩ : ∃ L, Ls[j]? = some L := ⟨_, List.getElem?_eq_getElem hlt2⟩
          obtain ⟨b, off, u, rfl, -, c0, hu⟩ := srr_at ((HV.out.below HB.out).below HL.out.2) hL
          obtain ⟨a2, cap2, rfl, -, -⟩ := hu.form
          obtain ⟨l1, l2⟩ := fine_at HF.out hL
          have cm := slacks W L HWS.out.ok l1.ok _ _ _ (HA.out.below HL.out.2) hu
          rw [of_self HWS.out HWM.out, of_self l1 l2] at cm
          have hnx : (Ls.take (j + 1)).map (lkM W) = (Ls.take j).map (lkM W) ++ [lkM W L] := by
            rw [List.getElem?_eq_getElem hlt2] at hL
            rw [List.take_succ_eq_append_getElem hlt2, Option.some.inj hL, List.map_append]
            rfl
          have HNX := Lib.hid hnx
          have hml : ((Ls.take j).map (lkM W)).length = j := by rw [List.length_map, List.length_take]; omega
          have HML := Lib.hid hml
          clear hL hu l1 l2 hnx hml
          go_wp2_with fail
          refine Calls.mono cm ?_
          rintro e w3 ⟨v3, rfl, ho3, hb3⟩
          have hv3 := HL.out.1.below hb3
          have hlt3 : ∀ k, v3.ownBlock = some k → k < w3.heap.size ∧ some k ≠ Value.ownBlock _ := fun k e => ⟨(ho3.lt k e).2, fun e2 => by have := (ho3.lt k e).1; have := (HL.out.1.own.lt k e2.symm).2; omega⟩
          have HO3 := Lib.hid hv3
          have HLT := Lib.hid hlt3
          have HR3 := Lib.hid (SR.owns ho3)
          have HB3 := Lib.hid (HL.out.2.trans (hb3.mono hwr))
          have hw3 := HB3.out.size
          obtain ⟨a3, cap3, rfl, -, -⟩ := (SR.owns ho3).form
          clear ho3 hb3 cm hv3 hlt3
          go_wp2_with (at_builtin; refine wp_appN Try.underlying81 hi hz0 hz1 hz2 rfl (by decide) rfl (.tmp 26) (.tmp 30) rfl WA.heap.size _ _ _ rfl (HO3.out.own.alloc _) _ _ 1 [_] rfl (slice_lit _ _) (by decide) ?c1 ?c2 ?c3 ?c4 ?_)
          case c1 => exact slice_one HR3.out
          case c2 => rw [HML.out]; unfold maxLen; omega
          case c3 => rw [HML.out]; omega
          case c4 => simp; omega
          intro v' w9 hown hgr hnw
          have HO9 := Lib.hid (OwnV.app (L := lkM W L) HO3.out HR3.out HLT.out (by rw [HML.out]; exact hown) hgr (by simpa using hnw))
          have HB9 := Lib.hid (app_below HB3.out hw3 HO3.out.own hgr)
          clear hown hgr hnw
          go_wp2_with fail
          go_roundw
          case rel => exact ⟨j + 1, _, by omega, by go_num, Lib.hid ⟨by rw [HNX.out]; exact HO9.out, HB9.out⟩⟩
          case measure => simp [intOf]; omega
        · obtain rfl : j = Ls.length := by omega
          have HQ := HL.out
          rw [List.take_length] at HQ
          have HQ' := Lib.hid HQ
          clear HQ
          go_wp2_with fail
          go_returns
          exact ⟨_, _, us, rfl, by rw [HWE.out]; exact HA.out.below HQ'.out.2, by rw [HWE.out]; exact HQ'.out.1.srr, HB.out.trans (HQ'.out.2.mono HB.out.size)⟩
end Go.Proofs.Ytoonlhjldkkanaa
