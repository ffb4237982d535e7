/-
  past: what a history did with a block (Uses).
-/
import Derived.Test.YtodjlaapmbnahaaPstD
namespace Go.Proofs.Ytodjlaapmbnahaa
open Go.RowKit
set_option linter.unusedVariables false
set_option linter.unusedSimpArgs false

theorem Told.keep {w w' : World} {b n : Nat} {l : List Ev} {base size m : Nat} {e : TypeId} {v : Value} {xs : List Value} (h : Told w b n l) (ho : w.ownsRow base e size v m xs) (hg : w.grownBy w' v.ownBlock) : Told w' b n l := by
  have h0 := h
  obtain ⟨D, ⟨es, clock, hb, F⟩, hD⟩ := h0
  exact h.move (keep_map ho hg hb)
theorem uinfo : (Try.prog.info? 72).map (fun i => (i.zero, i.size, i.bytes)) = some (some (.agg #[.bool false, .string ⟨#[]⟩, .int .i64 0, .int .i64 0]), 4, 40) := by kernel_rfl
/-- the list so far, the map, and what lies before the call -/
def URel (N b n : Nat) (E : List Ev) (w : World) (l : List Us) (v : Value) (wr : World) : Prop := wr.ownsRow N 72 4 v l.length (uC l) ∧ Told wr b n E ∧ Below N w wr ∧ N ≤ wr.heap.size
theorem URel.below {N b n : Nat} {E : List Ev} {w wr w' : World} {l : List Us} {v : Value} (h : URel N b n E w l v wr) (hb : Below wr.heap.size wr w') : URel N b n E w l v w' :=
  ⟨owns_below h.1 hb, h.2.1.below hb, h.2.2.1.trans (hb.mono h.2.2.2), Nat.le_trans h.2.2.2 hb.size⟩
theorem URel.app {N b n : Nat} {E : List Ev} {w wr w' : World} {l : List Us} {u : Us} {v v' : Value} (h : URel N b n E w l v wr) (ho : w'.ownsRow N 72 4 v' (l.length + 1) (uC l ++ uC [u])) (hg : wr.grownBy w' v.ownBlock) : URel N b n E w (l ++ [u]) v' w' :=
  ⟨by rw [uC_app, List.length_append]; exact ho, h.2.1.keep h.1 hg, below_app h.2.2.1 hg h.1 (Nat.le_refl _) h.2.2.2, Nat.le_trans h.2.2.2 hg.size⟩
/-- an event's own block, its parts' block -/
def UIn (P : Nat) (x : Ev) (ps : List Pt) (v : Value) (wr : World) : Prop := wr.heap[P]? = some (evO x) ∧ Elts wr Pt.c 3 v ps ∧ ∀ g, v.ownBlock = some g → ∃ A fr, wr.heap[g]? = some (.cells A 89 fr)
theorem UIn.below {P : Nat} {x : Ev} {ps : List Pt} {v : Value} {wr w' : World} (h : UIn P x ps v wr) (hb : Below wr.heap.size wr w') : UIn P x ps v w' := by
  refine ⟨below_at hb (lt_heap h.1) h.1, h.2.1.below hb, fun g e => ?_⟩
  obtain ⟨A, fr, q⟩ := h.2.2 g e
  exact ⟨A, fr, below_at hb (lt_heap q) q⟩
theorem UIn.app {P : Nat} {x : Ev} {ps : List Pt} {v s : Value} {wr w' : World} {base size m : Nat} {xs : List Value} (h : UIn P x ps v wr) (ho : wr.ownsRow base 72 size s m xs) (hg : wr.grownBy w' s.ownBlock) : UIn P x ps v w' := by
  refine ⟨keep_typed ho hg h.1 (by decide), h.2.1.move hg.size fun g e => ?_, fun g e => ?_⟩
  · obtain ⟨A, fr, q⟩ := h.2.2 g e
    exact (keep_typed ho hg q (by decide)).trans q.symm
  · obtain ⟨A, fr, q⟩ := h.2.2 g e
    exact ⟨A, fr, keep_typed ho hg q (by decide)⟩
structure EvOk (x : Ev) : Prop where
  id : (Lit.int .i64 x.id).wf = true
  at_ : (Lit.int .i64 x.at_).wf = true
  len : (Lit.int .i64 x.len).wf = true
  data : x.data.size ≤ maxLen
  txt : x.txt.size ≤ maxLen
theorem told_some {E : List Ev} {z : Int} {i : Nat} (h : told E z = some i) : ∃ x, E[i]? = some x ∧ x.ans = true ∧ x.id = z := by
  unfold told at h
  rw [List.findIdx?_eq_some_iff_getElem] at h
  obtain ⟨hi, h1, -⟩ := h
  refine ⟨E[i], List.getElem?_eq_getElem hi, ?_⟩
  simpa [isTold] using h1
def UsesP (E : List Ev) (B block : Int) (w : World) (e : Ending) (w' : World) : Prop := ∃ v, e = .returned v ∧ w'.ownsRow w.heap.size 72 4 v (usesN E B block E.length).length (uC (usesN E B block E.length)) ∧ Below w.heap.size w w'
set_option maxHeartbeats 6400000 in
set_option maxRecDepth 100000 in
theorem puses (E : List Ev) (B block : Int) (v : Value) (w : World) (hE : Elts w Ev.c 10 v E) (hok : ∀ e ∈ E, EvOk e) (hn : E.length ≤ 100000) :
    Calls Try.prog 20 #[v, .int .i64 B, .int .i64 block] w (UsesP E B block w) := by
  obtain ⟨i0, hi, hz0, hz1, hz2⟩ := info_parts uinfo
  obtain ⟨a, cap, rfl, hlc, hcm⟩ := elts_len hE
  unfold UsesP
  have c1 := panswers E _ w hE (fun e he => (hok e he).id)
  obtain ⟨N, hN⟩ : ∃ N, w.heap.size = N := ⟨_, rfl⟩
  obtain ⟨n, hnn⟩ : ∃ n, E.length = n := ⟨_, rfl⟩
  have HE := Lib.hid (And.intro hE (And.intro hok (And.intro hN (And.intro hnn hn))))
  have hx' : (n : Int) ≤ 100000 := by omega
  rw [hnn] at c1 hlc ⊢
  rw [hN]
  clear hE hok hn hlc hcm
  go_enter Try.func20, Try.ntmps20
  go_wp2_with fail
  refine Calls.mono c1 ?_
  rintro e w1 ⟨b, rfl, hT, hbN, hb1⟩
  have hR0 : URel N b n E w (usesN E B block 0) (.slice none 0 0) w1 := by
    have h1 := HE.out.2.2.2.1
    have h2 := HE.out.2.2.1
    subst h1 h2
    exact ⟨⟨rfl, .inl ⟨rfl, rfl⟩⟩, hT, hb1, hb1.size⟩
  have HR0 := Lib.hid hR0
  clear c1 hR0 hT hb1 hbN hN hnn
  go_wp2_with fail
  go_loopw [8, 19] (fun av iv wr => ∃ j : Nat, j ≤ n ∧ iv = .int .i64 j ∧ Hid (URel N b n E w (usesN E B block j) av wr)) (fun _ iv _ => n - (intOf iv).toNat)
  case atStart => exact ⟨0, Nat.zero_le _, rfl, HR0⟩
  case round =>
    obtain ⟨j, hj, rfl, HR⟩ := hrel
    clear HR0
    by_cases hlt : j < n
    · obtain ⟨x, hx⟩ : ∃ x, E[j]? = some x := ⟨_, List.getElem?_eq_getElem (by have := HE.out.2.2.2.1; omega)⟩
      obtain ⟨hxi, hxa, hxl, hxd, hxt⟩ := HE.out.2.1 x (List.mem_of_getElem? hx)
      obtain ⟨g, off, rfl, hg, k0, k1, k2, k3, k4, k5, k6, k7, k8, k9⟩ := ev_cells (HE.out.1.below (HR.out.2.2.1.mono (by have := HE.out.2.2.1; omega))) hx
      have hb2 : Below wr.heap.size wr (wr.alloc (evO x)) := (Below.refl _ _).alloc (Nat.le_refl _) (evO x)
      have hal := heap_alloc_self wr (evO x)
      have hat : usesAt E B block j = if x.ans then [] else useEv E (told E x.id) block j (x.parts B) (x.parts B).length := by unfold usesAt; rw [hx]
      have c2 := fun w => pparts x.what x.at_ x.len x.data x.sure B w hxa hxl hxd
      have H2 := Lib.hid (And.intro (HR.out.below hb2) (And.intro hal (And.intro hat (And.intro hx hxi))))
      obtain ⟨P, hP⟩ : ∃ P, wr.heap.size = P := ⟨_, rfl⟩
      rw [hP] at H2
      clear hx hxi hxa hxl hxd hxt hg hb2 hal hat HR
      unfold evO at H2
      go_upto_region 6 with fail
      try rw [hP]
      generalize wr.alloc (.cells #[.bool x.ans, .int .i64 x.id, .int .i64 x.gate, .int .i64 x.what, .int .i64 x.at_, .int .i64 x.len, .string x.data, .bool x.sure, .int .i64 x.err, .string x.txt] 36) = w2 at *
      clear k0 k1 k2 k3 k4 k5 k6 k7 k8 k9 hP
      have e0 := cell_atF H2.out.2.1 0 (v := .bool x.ans) rfl
      have e3 := cell_atF H2.out.2.1 3 (v := .int .i64 x.what) rfl
      have e4 := cell_atF H2.out.2.1 4 (v := .int .i64 x.at_) rfl
      have e5 := cell_atF H2.out.2.1 5 (v := .int .i64 x.len) rfl
      have e6 := cell_atF H2.out.2.1 6 (v := .string x.data) rfl
      have e7 := cell_atF H2.out.2.1 7 (v := .bool x.sure) rfl
      obtain ⟨an, han⟩ : ∃ an, x.ans = an := ⟨_, rfl⟩
      rw [han] at e0
      have HA := Lib.hid han
      clear han
      cases an
      · go_wp2_with fail
        refine Calls.mono (c2 _) ?_
        rintro e w3 ⟨pv, rfl, hpe, hpt, hb3⟩
        have HI := Lib.hid (show UIn P x (x.parts B) pv w3 from ⟨below_at hb3 (lt_heap H2.out.2.1) H2.out.2.1, hpe, hpt⟩)
        have hps : x.parts B = evParts x.what x.at_ x.len x.data B := rfl
        rw [← hps] at hpe
        have hpl : (x.parts B).length ≤ 4 := evparts_len ..
        obtain ⟨ps, hps'⟩ : ∃ ps, x.parts B = ps := ⟨_, rfl⟩
        rw [hps'] at hpe hpl HI
        obtain ⟨o, ho⟩ : ∃ o, told E x.id = o := ⟨_, rfl⟩
        have H3 := Lib.hid (And.intro (H2.out.1.below hb3) (And.intro (show usesAt E B block j = useEv E o block j ps ps.length by rw [H2.out.2.2.1, HA.out, ← ho, ← hps']; rfl) (And.intro ho (And.intro H2.out.2.2.2.1 H2.out.2.2.2.2))))
        obtain ⟨pa, pc, rfl, hpc, hpm⟩ := elts_len hpe
        obtain ⟨m, hm⟩ : ∃ m, ps.length = m := ⟨_, rfl⟩
        have HM := Lib.hid hm
        rw [hm] at hpl hpc HI ⊢
        clear c2 hpe hpt hb3 hps hps' ho hm e0 e3 e4 e5 e6 e7 H2 hpc hpm
        go_wp2_with fail
        go_loopw [8, 31] (fun av iv wr => ∃ k : Nat, k ≤ m ∧ iv = .int .i64 k ∧ Hid (URel N b n E w (usesN E B block j ++ useEv E o block j ps k) av wr ∧ UIn P x ps (.slice pa m pc) wr)) (fun _ iv _ => m - (intOf iv).toNat)
        case atStart => exact ⟨0, Nat.zero_le _, rfl, Lib.hid ⟨by simpa [useEv] using H3.out.1, HI.out⟩⟩
        case round =>
          obtain ⟨k, hk, rfl, HR⟩ := hrel
          clear HI
          by_cases hlk : k < m
          · obtain ⟨p, hp⟩ : ∃ p, ps[k]? = some p := ⟨_, List.getElem?_eq_getElem (by have := HM.out; omega)⟩
            obtain ⟨-, pg, poff, rfl, hpg, hpc⟩ := HR.out.2.2.1.at_ hp
            have q0 : wr.cell? ⟨pg, poff + k * 3, none⟩ = some (.int .i64 p.b) := hpc 0 _ rfl
            have q1 : wr.cell? ⟨pg, poff + k * 3 + 1, none⟩ = some (.bool p.wr) := hpc 1 _ rfl
            have q2 : wr.cell? ⟨pg, poff + k * 3 + 2, none⟩ = some (.string p.d) := hpc 2 _ rfl
            have hb4 : Below wr.heap.size wr (wr.alloc (.cells #[.int .i64 p.b, .bool p.wr, .string p.d] 89)) := (Below.refl _ _).alloc (Nat.le_refl _) _
            have hal := heap_alloc_self wr (.cells #[.int .i64 p.b, .bool p.wr, .string p.d] 89)
            have H4 := Lib.hid (And.intro (HR.out.1.below hb4) (And.intro (HR.out.2.below hb4) (And.intro hal (show useEv E o block j ps (k + 1) = useEv E o block j ps k ++ usePt E o block j k p from useev_next hp))))
            obtain ⟨Q, hQ⟩ : ∃ Q, wr.heap.size = Q := ⟨_, rfl⟩
            rw [hQ] at H4
            clear hp hpg hpc hb4 hal HR
            go_upto_region 10 with fail
            try rw [hQ]
            generalize wr.alloc (.cells #[.int .i64 p.b, .bool p.wr, .string p.d] 89) = w4 at *
            clear q0 q1 q2 hQ
            have q0 := cell_atF H4.out.2.2.1 0 (v := .int .i64 p.b) rfl
            have q1 := cell_atF H4.out.2.2.1 1 (v := .bool p.wr) rfl
            have q2 := cell_atF H4.out.2.2.1 2 (v := .string p.d) rfl
            by_cases hpb : p.b = block
            · have hlk2 := H4.out.1.2.1.look x.id H3.out.2.2.2.2
              rw [H3.out.2.2.1] at hlk2
              have e1 := cell_atF H4.out.2.1.1 1 (v := .int .i64 x.id) rfl
              have c3 := puse E _ o k p.b p.wr p.d w4 (HE.out.1.below (H4.out.1.2.2.1.mono (by have := HE.out.2.2.1; omega))) (by omega) (fun i hi => by
                obtain ⟨y, h1, h2, h3⟩ := told_some (H3.out.2.2.1.trans hi)
                exact ⟨y, h1, (HE.out.2.1 y (List.mem_of_getElem? h1)).txt⟩)
              rw [HE.out.2.2.2.1] at c3
              have hus : usePt E o block j k p = if (useS E o k p.wr p.d).2.2.2 then [⟨(useS E o k p.wr p.d).1, (useS E o k p.wr p.d).2.1, j, (useS E o k p.wr p.d).2.2.1⟩] else [] := by unfold usePt; rw [if_pos hpb]
              have HU := Lib.hid hus
              clear hus
              obtain ⟨⟨ua, ub, uc, ud⟩, hu⟩ : ∃ u, useS E o k p.wr p.d = u := ⟨_, rfl⟩
              rw [hu] at c3 HU
              unfold UseP useA at c3
              rw [hpb] at q0 c3
              dsimp only at c3 HU
              clear hu hpb
              go_wp2_with fail
              refine Calls.mono c3 ?_
              rintro e w5 ⟨rfl, hb5⟩
              have r5 := H4.out.1.below hb5
              have i5 := H4.out.2.1.below hb5
              have hb6 : Below w5.heap.size w5 (w5.alloc (.cells #[.bool ua, .string ub, .int .i64 0, .int .i64 uc] 72)) := (Below.refl _ _).alloc (Nat.le_refl _) _
              have H5 := Lib.hid (And.intro r5 i5)
              have H6 := Lib.hid (And.intro (r5.below hb6) (And.intro (i5.below hb6) (heap_alloc_self w5 (.cells #[.bool ua, .string ub, .int .i64 0, .int .i64 uc] 72))))
              clear c3 q0 q1 q2 e1 hlk2 hb5 r5 i5 hb6
              cases ud
              · have HQ := Lib.hid (show URel N b n E w (usesN E B block j ++ useEv E o block j ps (k + 1)) u8 (w5.alloc (.cells #[.bool ua, .string ub, .int .i64 0, .int .i64 uc] 72)) by rw [H4.out.2.2.2, HU.out]; simpa using H6.out.1)
                have HQ2 := Lib.hid H6.out.2.1
                go_wp2_with fail
                go_roundw
                case rel => exact ⟨k + 1, by omega, by go_num, Lib.hid ⟨HQ.out, HQ2.out⟩⟩
                case measure => exact meas_p m k hlk
              · go_upto_region 13 with fail
                have hal := H6.out.2.2
                have hb7 : Below w5.heap.size w5 ((w5.alloc (.cells #[.bool ua, .string ub, .int .i64 0, .int .i64 uc] 72)).setCell ⟨w5.heap.size, 2, none⟩ (.int .i64 j)) := ((Below.refl _ _).alloc (Nat.le_refl _) _).setCell (Nat.le_refl _) _
                have hb8 := hb7.alloc hb7.size (.cells #[.bool ua, .string ub, .int .i64 j, .int .i64 uc] 72)
                have hbz := hb7.size
                have H7 := Lib.hid (And.intro (H5.out.1.below hb8) (And.intro (H5.out.2.below hb8) (And.intro (heap_set_self hal 2 (.int .i64 j)) (by simp : w5.heap.size < ((w5.alloc (.cells #[.bool ua, .string ub, .int .i64 0, .int .i64 uc] 72)).setCell ⟨w5.heap.size, 2, none⟩ (.int .i64 j)).heap.size))))
                clear H5 H6 hb7 hb8 hbz
                obtain ⟨R, hR⟩ : ∃ R, w5.heap.size = R := ⟨_, rfl⟩
                rw [hR] at hal H7
                try rw [hR]
                generalize w5.alloc (.cells #[.bool ua, .string ub, .int .i64 0, .int .i64 uc] 72) = w6 at *
                have f6 : ∀ i, w6.frozen? ⟨R, i, none⟩ = false := fun i => by simp [World.frozen?, hal]
                have s2 := cell_atF hal 2 (v := .int .i64 0) rfl
                clear hR hal
                go_upto_region 14 with fail
                generalize w6.setCell ⟨R, 2, none⟩ (.int .i64 j) = w7 at *
                clear f6 s2
                have s0 := cell_atF H7.out.2.2.1 0 (v := .bool ua) rfl
                have s1 := cell_atF H7.out.2.2.1 1 (v := .string ub) rfl
                have s2 := cell_atF H7.out.2.2.1 2 (v := .int .i64 j) rfl
                have s3 := cell_atF H7.out.2.2.1 3 (v := .int .i64 uc) rfl
                obtain ⟨l, hl⟩ : ∃ l, usesN E B block j ++ useEv E o block j ps k = l := ⟨_, rfl⟩
                have hll : l.length ≤ 500000 := by
                  rw [← hl, List.length_append]
                  have := uses_len E B block j
                  have := useev_len E o block j ps k
                  omega
                have HL := Lib.hid (And.intro hl hll)
                rw [hl] at H7
                clear hl hll
                go_wp2_with (at_builtin; refine wp_app Try.underlying40 hi hz0 hz1 hz2 rfl (by decide) rfl (.tmp 54) (.tmp 56) rfl N u8 l.length (uC l) rfl ?c5 _ 1 (uC [⟨ua, ub, j, uc⟩]) rfl (SR.lit _ _ #[.bool ua, .string ub, .int .i64 j, .int .i64 uc] 4 1 (by decide) rfl) ?c1 ?c2 ?c3 ?c4 ?_)
                case c5 => exact H7.out.1.1
                case c1 => exact uC_one _
                case c2 => unfold maxLen; have := HL.out.2; omega
                case c3 => have := HL.out.2; omega
                case c4 => exact H7.out.1.2.2.2
                intro v' w9 hown hgr
                have HQ := Lib.hid (show URel N b n E w (usesN E B block j ++ useEv E o block j ps (k + 1)) v' w9 ∧ UIn P x ps (.slice (some ⟨pg, poff, none⟩) m pc) w9 by
                  have h1 := H7.out.1.app hown hgr
                  rw [← HL.out.1, List.append_assoc] at h1
                  refine ⟨?_, H7.out.2.1.app H7.out.1.1 hgr⟩
                  rw [H4.out.2.2.2, HU.out, if_pos trivial]
                  exact h1)
                clear hown hgr
                go_wp2_with fail
                go_roundw
                case rel => exact ⟨k + 1, by omega, by go_num, HQ⟩
                case measure => exact meas_p m k hlk
            · have HQ := Lib.hid (show URel N b n E w (usesN E B block j ++ useEv E o block j ps (k + 1)) u8 w4 by rw [H4.out.2.2.2, show usePt E o block j k p = [] by unfold usePt; rw [if_neg hpb]]; simpa using H4.out.1)
              have HQ2 := Lib.hid H4.out.2.1
              go_wp2_with fail
              go_roundw
              case rel => exact ⟨k + 1, by omega, by go_num, Lib.hid ⟨HQ.out, HQ2.out⟩⟩
              case measure => exact meas_p m k hlk
          · obtain rfl : k = m := by omega
            have HQ := Lib.hid (show URel N b n E w (usesN E B block (j + 1)) u8 wr by rw [uses_next, H3.out.2.1, HM.out]; exact HR.out.1)
            go_wp2_with fail
            go_roundw
            case rel => exact ⟨j + 1, by omega, by go_num, HQ⟩
            case measure => exact meas_p n j hlt
      · have HQ := Lib.hid (show URel N b n E w (usesN E B block (j + 1)) u8 w2 by rw [uses_next, H2.out.2.2.1, HA.out]; simpa using H2.out.1)
        clear c2
        go_wp2_with fail
        go_roundw
        case rel => exact ⟨j + 1, by omega, by go_num, HQ⟩
        case measure => exact meas_p n j hlt
    · obtain rfl : j = n := by omega
      go_wp2_with fail
      go_ret
      exact ⟨_, rfl, HR.out.1, HR.out.2.2.1⟩
end Go.Proofs.Ytodjlaapmbnahaa
