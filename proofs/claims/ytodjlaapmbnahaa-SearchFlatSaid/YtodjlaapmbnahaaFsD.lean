/-
  flat: whether a block's values fit; a block's spans.
-/
import Derived.Test.YtodjlaapmbnahaaFsC
namespace Go.Proofs.Ytodjlaapmbnahaa
open Go.RowKit
set_option linter.unusedVariables false
set_option linter.unusedSimpArgs false

/-- what flat.Fits asks of the i-th of the spans -/
def FitAt (L : List Sp) (i : Nat) : Prop := ∀ s, L[i]? = some s → (i = 0 ∨ s.wr < s.e) ∧ ∀ k o, k < i → L[k]? = some o → clashB s o = false ∧ clashB o s = false
def FitsO : Option (List Sp) → Prop
  | none => True
  | some L => ∀ i, FitAt L i
def FitsP (x : Option (List Sp)) (w : World) (e : Ending) (w' : World) : Prop := ∃ b, e = .returned (.bool b) ∧ (b = true ↔ FitsO x) ∧ Below w.heap.size w w'
def initS : List Sp := [⟨zeroL 32, -1, -1, -1⟩]
theorem wC_flat : ∀ L : List Sp, wC L = (L.map Sp.wr).flatMap (fun z : Int => [Value.int .i64 z])
  | [] => rfl
  | s :: L => by
    show (.int .i64 s.wr) :: wC L = _
    rw [wC_flat L]
    rfl
theorem sp_cells {w : World} {a : Option Addr} {n cap : Nat} {L : List Sp} (h : Elts w Sp.c 3 (.slice a n cap) L) {j : Nat} {x : Sp} (hj : L[j]? = some x) : ∃ b off, a = some ⟨b, off, none⟩ ∧ b < w.heap.size ∧ w.cell? ⟨b, off + j * 3, none⟩ = some (.string x.val) ∧ w.cell? ⟨b, off + j * 3 + 1, none⟩ = some (.int .i64 x.e) ∧ w.cell? ⟨b, off + j * 3 + 2, none⟩ = some (.int .i64 x.b) := by
  obtain ⟨-, b, off, rfl, hb, hc⟩ := h.at_ hj
  exact ⟨b, off, rfl, hb, hc 0 _ rfl, hc 1 _ rfl, hc 2 _ rfl⟩
theorem int_cells {w : World} {a : Option Addr} {n cap : Nat} {L : List Int} (h : Elts w (fun z : Int => [Value.int .i64 z]) 1 (.slice a n cap) L) {j : Nat} {x : Int} (hj : L[j]? = some x) : ∃ b off, a = some ⟨b, off, none⟩ ∧ b < w.heap.size ∧ w.cell? ⟨b, off + j, none⟩ = some (.int .i64 x) := by
  obtain ⟨-, b, off, rfl, hb, hc⟩ := h.at_ hj
  have := hc 0 _ rfl
  rw [Nat.mul_one] at this
  exact ⟨b, off, rfl, hb, this⟩
set_option maxHeartbeats 6400000 in
set_option maxRecDepth 100000 in
theorem pfits (E : List Ev) (B block : Int) (v : Value) (w : World) (hE : Elts w Ev.c 10 v E) (hok : ∀ e ∈ E, EvOk e) (hn : E.length ≤ 2000) (hus : ∀ u ∈ usesN E B block E.length, UsOk u) :
    Calls Try.prog 8 #[v, .int .i64 B, .int .i64 block] w (FitsP (spansL initS (usesN E B block E.length)) w) := by
  have c1 := puses E B block v w hE hok (by omega)
  have hul := uses_len E B block E.length
  obtain ⟨us, hus'⟩ : ∃ us, usesN E B block E.length = us := ⟨_, rfl⟩
  unfold UsesP at c1
  rw [hus'] at c1 hul hus ⊢
  clear hus'
  go_enter Try.func8, Try.ntmps8
  go_wp2_with fail
  refine Calls.mono c1 ?_
  rintro e w1 ⟨uv, rfl, hown, hb1⟩
  have c2 := pspans us (by omega) hus uv w1 (elts_sr (c := Us.c) (sz := 4) (fun _ => rfl) (SR.owns hown))
  have HB1 := Lib.hid hb1
  clear c1 hb1 hown hE
  go_wp2_with fail
  refine Calls.mono c2 ?_
  rintro e w2 hsp
  unfold SpansP at hsp
  change (match spansL initS us with | none => _ | some L => _) at hsp
  clear c2
  cases hL : spansL initS us with
  | none =>
    rw [hL] at hsp
    obtain ⟨rfl, hb2⟩ := hsp
    have HF := Lib.hid (HB1.out.trans (hb2.mono HB1.out.size))
    clear hb2
    go_wp2_with fail
    go_returns
    exact ⟨true, rfl, by rw [hL]; simp [FitsO], HF.out⟩
  | some L =>
    rw [hL] at hsp
    obtain ⟨sv, wv, rfl, hs, hw, hb2⟩ := hsp
    have hlen := spans_len _ _ _ hL
    have hb12 : Below w.heap.size w w2 := HB1.out.trans (hb2.mono HB1.out.size)
    have hel : Elts w2 Sp.c 3 sv L := elts_sr (c := Sp.c) (sz := 3) (fun _ => rfl) (SR.owns hs)
    have hew : Elts w2 (fun z : Int => [Value.int .i64 z]) 1 wv (L.map Sp.wr) := elts_sr (c := fun z : Int => [Value.int .i64 z]) (sz := 1) (fun _ => rfl) (by
      have := SR.owns hw
      rw [List.length_map]
      rw [← wC_flat]; exact this)
    obtain ⟨sa, sc, rfl⟩ := rowForm hs
    obtain ⟨wa, wcap, rfl⟩ := rowForm hw
    have hsc : L.length ≤ sc ∧ sc ≤ maxLen := by obtain ⟨a, c, e, h1, h2, -⟩ := SR.owns hs; injection e with e1 e2 e3; subst e3; exact ⟨h1, h2⟩
    unfold maxLen at hsc
    obtain ⟨m, hm⟩ : ∃ m, L.length = m := ⟨_, rfl⟩
    rw [hm] at hel hew hsc hlen ⊢
    have HLL := Lib.hid hL
    have hmb : m ≤ 100000 := by simp [initS] at hlen; omega
    have H2 := Lib.hid (And.intro hel (And.intro hew (And.intro hb12 hm)))
    clear hel hew hb12 hm hs hw hb2 hlen hL
    go_wp2_with fail
    go_loopw [27] (fun iv wr => ∃ i : Nat, i ≤ m ∧ iv = .int .i64 (i : Int) ∧ Hid (∀ k, k < i → FitAt L k) ∧ Hid (Below w2.heap.size w2 wr)) (fun iv _ => m - (intOf iv).toNat)
    case atStart => exact ⟨0, Nat.zero_le _, rfl, Lib.hid fun k hk => absurd hk (Nat.not_lt_zero k), Lib.hid (Below.refl _ _)⟩
    case round =>
      obtain ⟨i, hi, rfl, HG, HB⟩ := hrel
      by_cases hlt : i < m
      · obtain ⟨s, hs⟩ : ∃ s, L[i]? = some s := ⟨_, List.getElem?_eq_getElem (by have := H2.out.2.2.2; omega)⟩
        obtain ⟨sb, so, rfl, hsb, k0, k1, k2⟩ := sp_cells (H2.out.1.below HB.out) hs
        obtain ⟨wb, wo, rfl, hwb, k3⟩ := int_cells (H2.out.2.1.below HB.out) (show (L.map Sp.wr)[i]? = some s.wr by rw [List.getElem?_map, hs]; rfl)
        have hba : Below wr.heap.size wr (wr.alloc (.cells #[.string s.val, .int .i64 s.e, .int .i64 s.b] 63)) := (Below.refl _ _).alloc (Nat.le_refl _) _
        have hp := heap_alloc_self wr (.cells #[.string s.val, .int .i64 s.e, .int .i64 s.b] 63)
        have k3' := (hba.cell (p := ⟨wb, wo + i, none⟩) hwb).trans k3
        obtain ⟨P, hP⟩ : ∃ P, wr.heap.size = P := ⟨_, rfl⟩
        rw [hP] at hp
        have H6 := Lib.hid (And.intro (HB.out.trans (hba.mono HB.out.size)) (And.intro hp hs))
        clear hsb hwb k3 hba HB hs
        go_upto_region 7 with fail
        try rw [hP]
        generalize wr.alloc (.cells #[.string s.val, .int .i64 s.e, .int .i64 s.b] 63) = w6 at *
        have x0 := cell_atF hp 0 (v := .string s.val) rfl
        have x1 := cell_atF hp 1 (v := .int .i64 s.e) rfl
        have x2 := cell_atF hp 2 (v := .int .i64 s.b) rfl
        clear hp k0 k1 k2 hP
        have him : (i : Int) < (m : Int) := by omega
        by_cases hbad : 0 < i ∧ s.e ≤ s.wr
        · obtain ⟨hi0, hbe⟩ := hbad
          have hi0' : (0 : Int) < (i : Int) := by omega
          have hi1 : decide ((0 : Int) < (i : Int)) = true := by simpa using hi0'
          have hbe' : decide (s.e ≤ s.wr) = true := by simpa using hbe
          have hF : ¬ FitsO (spansL initS us) := by
            rw [HLL.out]
            intro h
            have := (h i s H6.out.2.2).1
            omega
          have HF := Lib.hid (And.intro hF (H2.out.2.2.1.trans (H6.out.1.mono H2.out.2.2.1.size)))
          clear hF
          go_quiet (fail)
          go_wp2_with fail
          go_returns
          exact ⟨false, rfl, ⟨fun h => Bool.noConfusion h, fun h => absurd h HF.out.1⟩, by first | exact HF.out.2 | exact below_drewN' HF.out.2 _⟩
        · go_cut [42] (fun v wx => v = .bool false ∧ Below w6.heap.size w6 wx)
          case first =>
            by_cases hi0 : i = 0
            · have hi0' : ¬ ((0 : Int) < (i : Int)) := by omega
              have hi2 : ¬ (0 < i) := by omega
              have hi3 : decide (0 < i) = false := by simpa using hi2
              clear hbad hi0 hi0'
              go_quiet (fail)
              go_wp2_with fail
              go_meet
              exact ⟨rfl, by first | exact Below.refl _ _ | exact below_drewN' (Below.refl _ _) _⟩
            · have hi0' : (0 : Int) < (i : Int) := by omega
              have hi2 : 0 < i := by omega
              have hi1 : decide ((0 : Int) < (i : Int)) = true := by simpa using hi0'
              have hbe : ¬ (s.e ≤ s.wr) := fun h => hbad ⟨by omega, h⟩
              have hbe' : decide (s.e ≤ s.wr) = false := by simpa using hbe
              clear hbad
              go_quiet (fail)
              go_wp2_with fail
              go_meet
              exact ⟨rfl, by first | exact Below.refl _ _ | exact below_drewN' (Below.refl _ _) _⟩
          case rest =>
            obtain ⟨hs42, hbc⟩ := hcut
            subst hs42
            have hbw : i = 0 ∨ s.wr < s.e := by
              rcases Nat.eq_zero_or_pos i with h | h
              · exact .inl h
              · exact .inr (by rcases Int.lt_or_le s.wr s.e with h2 | h2; exact h2; exact absurd ⟨h, h2⟩ hbad)
            have hpc := below_at hbc (lt_heap H6.out.2.1) H6.out.2.1
            have HC := Lib.hid (And.intro (H6.out.1.trans (hbc.mono H6.out.1.size)) (And.intro hpc hbw))
            have him2 : (i : Int) ≤ (m : Int) := by omega
            have hisc : (i : Int) ≤ (sc : Int) := by omega
            clear hbc hpc hbw hbad x0 x1 x2 k3'
            go_wp2_with fail
            go_loopw [47] (fun kv wx => ∃ k : Nat, k ≤ i ∧ kv = .int .i64 (k : Int) ∧ Hid (∀ k' o, k' < k → L[k']? = some o → clashB s o = false ∧ clashB o s = false) ∧ Hid (Below wc.heap.size wc wx)) (fun kv _ => i - (intOf kv).toNat)
            case atStart => exact ⟨0, Nat.zero_le _, rfl, Lib.hid fun k' o h => absurd h (Nat.not_lt_zero k'), Lib.hid (Below.refl _ _)⟩
            case round =>
              obtain ⟨k, hk, rfl, HK, HD⟩ := hrel
              have hb2r : Below w2.heap.size w2 wr := HC.out.1.trans (HD.out.mono HC.out.1.size)
              have hpr := below_at HD.out (lt_heap HC.out.2.1) HC.out.2.1
              by_cases hki : k < i
              · obtain ⟨o, ho⟩ : ∃ o, L[k]? = some o := ⟨_, List.getElem?_eq_getElem (by have := H2.out.2.2.2; omega)⟩
                obtain ⟨sb2, so2, e9, hsb2, k0, k1, k2⟩ := sp_cells (H2.out.1.below hb2r) ho
                have e9 := Option.some.inj e9
                have e91 : sb2 = sb := by have := congrArg Addr.block e9; simpa using this.symm
                have e92 : so2 = so := by have := congrArg Addr.off e9; simpa using this.symm
                subst e91 e92
                have hba : Below wr.heap.size wr (wr.alloc (.cells #[.string o.val, .int .i64 o.e, .int .i64 o.b] 63)) := (Below.refl _ _).alloc (Nat.le_refl _) _
                have hq := heap_alloc_self wr (.cells #[.string o.val, .int .i64 o.e, .int .i64 o.b] 63)
                have hp7 := below_at hba (lt_heap hpr) hpr
                obtain ⟨Q, hQ⟩ : ∃ Q, wr.heap.size = Q := ⟨_, rfl⟩
                rw [hQ] at hq
                have H7 := Lib.hid (And.intro (HD.out.trans (hba.mono HD.out.size)) (And.intro hp7 (And.intro hq (And.intro ho (hb2r.trans (hba.mono hb2r.size))))))
                have c1 := pclash s o
                have c2 := pclash o s
                clear hba hp7 hb2r hpr ho hsb2 e9 HD
                have hki' : (k : Int) < (i : Int) := by omega
                go_upto_region 12 with fail
                try rw [hQ]
                generalize wr.alloc (.cells #[.string o.val, .int .i64 o.e, .int .i64 o.b] 63) = w7 at *
                clear k0 k1 k2 hQ
                have x0 := cell_atF H7.out.2.1 0 (v := .string s.val) rfl
                have x1 := cell_atF H7.out.2.1 1 (v := .int .i64 s.e) rfl
                have x2 := cell_atF H7.out.2.1 2 (v := .int .i64 s.b) rfl
                have y0 := cell_atF hq 0 (v := .string o.val) rfl
                have y1 := cell_atF hq 1 (v := .int .i64 o.e) rfl
                have y2 := cell_atF hq 2 (v := .int .i64 o.b) rfl
                clear hq
                obtain ⟨b1, hb1⟩ : ∃ b1, clashB s o = b1 := ⟨_, rfl⟩
                obtain ⟨b2, hb2⟩ : ∃ b2, clashB o s = b2 := ⟨_, rfl⟩
                rw [hb1] at c1
                rw [hb2] at c2
                have HBB := Lib.hid (And.intro hb1 hb2)
                have hbadF : b1 = true ∨ b2 = true → ¬ FitsO (spansL initS us) := fun hh => by
                  rw [HLL.out]
                  intro h
                  have := (h i s H6.out.2.2).2 k o hki H7.out.2.2.2.1
                  rw [hb1, hb2] at this
                  rcases hh with hh | hh
                  · rw [hh] at this; exact Bool.noConfusion this.1
                  · rw [hh] at this; exact Bool.noConfusion this.2
                have HBF := Lib.hid hbadF
                clear hb1 hb2 hbadF
                cases b1
                · go_wp2_with fail
                  refine Calls.mono (c1 _) ?_
                  rintro e w8 ⟨rfl, hb8⟩
                  have hp8 := below_at hb8 (lt_heap H7.out.2.1) H7.out.2.1
                  have hq8 := below_at hb8 (lt_heap H7.out.2.2.1) H7.out.2.2.1
                  have H8 := Lib.hid (And.intro (H7.out.1.trans (hb8.mono H7.out.1.size)) (H7.out.2.2.2.2.trans (hb8.mono H7.out.2.2.2.2.size)))
                  clear x0 x1 x2 y0 y1 y2 hb8 c1
                  have x0 := cell_atF hp8 0 (v := .string s.val) rfl
                  have x1 := cell_atF hp8 1 (v := .int .i64 s.e) rfl
                  have x2 := cell_atF hp8 2 (v := .int .i64 s.b) rfl
                  have y0 := cell_atF hq8 0 (v := .string o.val) rfl
                  have y1 := cell_atF hq8 1 (v := .int .i64 o.e) rfl
                  have y2 := cell_atF hq8 2 (v := .int .i64 o.b) rfl
                  clear hp8 hq8
                  go_wp2_with fail
                  refine Calls.mono (c2 _) ?_
                  rintro e w9 ⟨rfl, hb9⟩
                  have H9 := Lib.hid (And.intro (H8.out.1.trans (hb9.mono H8.out.1.size)) (H2.out.2.2.1.trans ((H8.out.2.trans (hb9.mono H8.out.2.size)).mono H2.out.2.2.1.size)))
                  clear x0 x1 x2 y0 y1 y2 hb9 c2
                  cases b2
                  · have hnx : ∀ k' o', k' < k + 1 → L[k']? = some o' → clashB s o' = false ∧ clashB o' s = false := fun k' o' h1 h2 => by
                      rcases Nat.lt_or_ge k' k with q | q
                      · exact HK.out k' o' q h2
                      · obtain rfl : k' = k := by omega
                        rw [H7.out.2.2.2.1] at h2
                        cases h2
                        exact HBB.out
                    have HNX := Lib.hid hnx
                    clear hnx
                    go_wp2_with fail
                    go_roundw
                    case rel => exact ⟨k + 1, by omega, by go_num, HNX, Lib.hid H9.out.1⟩
                    case measure => simp [intOf]; omega
                  · go_wp2_with fail
                    go_returns
                    exact ⟨false, rfl, ⟨fun h => Bool.noConfusion h, fun h => absurd h (HBF.out (by simp))⟩, H9.out.2⟩
                · go_wp2_with fail
                  refine Calls.mono (c1 _) ?_
                  rintro e w8 ⟨rfl, hb8⟩
                  have H8 := Lib.hid (H2.out.2.2.1.trans ((H7.out.2.2.2.2.trans (hb8.mono H7.out.2.2.2.2.size)).mono H2.out.2.2.1.size))
                  clear x0 x1 x2 y0 y1 y2 hb8 c1
                  go_wp2_with fail
                  go_returns
                  exact ⟨false, rfl, ⟨fun h => Bool.noConfusion h, fun h => absurd h (HBF.out (by simp))⟩, H8.out⟩
              · obtain rfl : k = i := by omega
                have hfit : ∀ q, q < k + 1 → FitAt L q := fun q hq => by
                  rcases Nat.lt_or_ge q k with h | h
                  · exact HG.out q h
                  · obtain rfl : q = k := by omega
                    intro s' hs'
                    rw [H6.out.2.2] at hs'
                    cases hs'
                    exact ⟨HC.out.2.2, HK.out⟩
                have HFI := Lib.hid hfit
                have HB2R := Lib.hid hb2r
                clear hfit hb2r hpr
                go_wp2_with fail
                exact ⟨⟨k + 1, by omega, by go_num, HFI, HB2R⟩, by simp [intOf]; omega⟩
      · obtain rfl : i = m := by omega
        have hfit : FitsO (spansL initS us) := by
          rw [HLL.out]
          intro q
          rcases Nat.lt_or_ge q i with h | h
          · exact HG.out q h
          · intro s' hs'
            rw [List.getElem?_eq_none (by have := H2.out.2.2.2; omega)] at hs'
            cases hs'
        have HFI := Lib.hid (And.intro hfit (H2.out.2.2.1.trans (HB.out.mono H2.out.2.2.1.size)))
        clear hfit
        go_wp2_with fail
        go_returns
        exact ⟨true, rfl, ⟨fun _ => HFI.out.1, fun _ => rfl⟩, HFI.out.2⟩
end Go.Proofs.Ytodjlaapmbnahaa
