/-
  Several texts, laid together.
-/
import Derived.Test.YtodjlaapmbnahaaMh1
/-
  flat: whether a block's values fit; a block's spans.
-/

namespace Go.Proofs.Ytodjlaapmbnahaa
open Go.RowKit
set_option linter.unusedVariables false
set_option linter.unusedSimpArgs false

/-- what flat.Fits asks of the i-th of the spans -/
def FitAt (L : List Sp) (i : Nat) : Prop := ∀ s, L[i]? = some s → (i = 0 ∨ s.wr < s.e) ∧ ∀ k o, k < i → L[k]? = some o → clashB s o = false ∧ clashB o s = false
def FitsO : Option (List Sp) → Prop
  | none => True
  | some L => ∀ i, FitAt L i
def FitsP (x : Option (List Sp)) (w : World) (e : Ending) (w' : World) : Prop := ∃ b, e = .returned (.bool b) ∧ (b = true ↔ FitsO x) ∧ Below w.heap.size w w'
def initS : List Sp := [⟨zeroL 32, -1, -1, -1⟩]
theorem wC_flat : ∀ L : List Sp, wC L = (L.map Sp.wr).flatMap (fun z : Int => [Value.int .i64 z])
  | [] => rfl
  | s :: L => by
    show (.int .i64 s.wr) :: wC L = _
    rw [wC_flat L]
    rfl
theorem sp_cells {w : World} {a : Option Addr} {n cap : Nat} {L : List Sp} (h : Elts w Sp.c 3 (.slice a n cap) L) {j : Nat} {x : Sp} (hj : L[j]? = some x) : ∃ b off, a = some ⟨b, off, none⟩ ∧ b < w.heap.size ∧ w.cell? ⟨b, off + j * 3, none⟩ = some (.string x.val) ∧ w.cell? ⟨b, off + j * 3 + 1, none⟩ = some (.int .i64 x.e) ∧ w.cell? ⟨b, off + j * 3 + 2, none⟩ = some (.int .i64 x.b) := by
  obtain ⟨-, b, off, rfl, hb, hc⟩ := h.at_ hj
  exact ⟨b, off, rfl, hb, hc 0 _ rfl, hc 1 _ rfl, hc 2 _ rfl⟩
theorem int_cells {w : World} {a : Option Addr} {n cap : Nat} {L : List Int} (h : Elts w (fun z : Int => [Value.int .i64 z]) 1 (.slice a n cap) L) {j : Nat} {x : Int} (hj : L[j]? = some x) : ∃ b off, a = some ⟨b, off, none⟩ ∧ b < w.heap.size ∧ w.cell? ⟨b, off + j, none⟩ = some (.int .i64 x) := by
  obtain ⟨-, b, off, rfl, hb, hc⟩ := h.at_ hj
  have := hc 0 _ rfl
  rw [Nat.mul_one] at this
  exact ⟨b, off, rfl, hb, this⟩
set_option maxHeartbeats 6400000 in
set_option maxRecDepth 100000 in
theorem pfits (E : List Ev) (B block : Int) (v : Value) (w : World) (hE : Elts w Ev.c 10 v E) (hok : ∀ e ∈ E, EvOk e) (hn : E.length ≤ 2000) (hus : ∀ u ∈ usesN E B block E.length, UsOk u) :
    Calls Try.prog 8 #[v, .int .i64 B, .int .i64 block] w (FitsP (spansL initS (usesN E B block E.length)) w) := by
  have c1 := puses E B block v w hE hok (by omega)
  have hul := uses_len E B block E.length
  obtain ⟨us, hus'⟩ : ∃ us, usesN E B block E.length = us := ⟨_, rfl⟩
  unfold UsesP at c1
  rw [hus'] at c1 hul hus ⊢
  clear hus'
  go_enter Try.func8, Try.ntmps8
  go_wp2_with fail
  refine Calls.mono c1 ?_
  rintro e w1 ⟨uv, rfl, hown, hb1⟩
  have c2 := pspans us (by omega) hus uv w1 (elts_sr (c := Us.c) (sz := 4) (fun _ => rfl) (SR.owns hown))
  have HB1 := Lib.hid hb1
  clear c1 hb1 hown hE
  go_wp2_with fail
  refine Calls.mono c2 ?_
  rintro e w2 hsp
  unfold SpansP at hsp
  change (match spansL initS us with | none => _ | some L => _) at hsp
  clear c2
  cases hL : spansL initS us with
  | none =>
    rw [hL] at hsp
    obtain ⟨rfl, hb2⟩ := hsp
    have HF := Lib.hid (HB1.out.trans (hb2.mono HB1.out.size))
    clear hb2
    go_wp2_with fail
    go_returns
    exact ⟨true, rfl, by rw [hL]; simp [FitsO], HF.out⟩
  | some L =>
    rw [hL] at hsp
    obtain ⟨sv, wv, rfl, hs, hw, hb2⟩ := hsp
    have hlen := spans_len _ _ _ hL
    have hb12 : Below w.heap.size w w2 := HB1.out.trans (hb2.mono HB1.out.size)
    have hel : Elts w2 Sp.c 3 sv L := elts_sr (c := Sp.c) (sz := 3) (fun _ => rfl) (SR.owns hs)
    have hew : Elts w2 (fun z : Int => [Value.int .i64 z]) 1 wv (L.map Sp.wr) := elts_sr (c := fun z : Int => [Value.int .i64 z]) (sz := 1) (fun _ => rfl) (by
      have := SR.owns hw
      rw [List.length_map]
      rw [← wC_flat]; exact this)
    obtain ⟨sa, sc, rfl⟩ := rowForm hs
    obtain ⟨wa, wcap, rfl⟩ := rowForm hw
    have hsc : L.length ≤ sc ∧ sc ≤ maxLen := by obtain ⟨a, c, e, h1, h2, -⟩ := SR.owns hs; injection e with e1 e2 e3; subst e3; exact ⟨h1, h2⟩
    unfold maxLen at hsc
    obtain ⟨m, hm⟩ : ∃ m, L.length = m := ⟨_, rfl⟩
    rw [hm] at hel hew hsc hlen ⊢
    have HLL := Lib.hid hL
    have hmb : m ≤ 100000 := by simp [initS] at hlen; omega
    have H2 := Lib.hid (And.intro hel (And.intro hew (And.intro hb12 hm)))
    clear hel hew hb12 hm hs hw hb2 hlen hL
    go_wp2_with fail
    go_loopw [27] (fun iv wr => ∃ i : Nat, i ≤ m ∧ iv = .int .i64 (i : Int) ∧ Hid (∀ k, k < i → FitAt L k) ∧ Hid (Below w2.heap.size w2 wr)) (fun iv _ => m - (intOf iv).toNat)
    case atStart => exact ⟨0, Nat.zero_le _, rfl, Lib.hid fun k hk => absurd hk (Nat.not_lt_zero k), Lib.hid (Below.refl _ _)⟩
    case round =>
      obtain ⟨i, hi, rfl, HG, HB⟩ := hrel
      by_cases hlt : i < m
      · obtain ⟨s, hs⟩ : ∃ s, L[i]? = some s := ⟨_, List.getElem?_eq_getElem (by have := H2.out.2.2.2; omega)⟩
        obtain ⟨sb, so, rfl, hsb, k0, k1, k2⟩ := sp_cells (H2.out.1.below HB.out) hs
        obtain ⟨wb, wo, rfl, hwb, k3⟩ := int_cells (H2.out.2.1.below HB.out) (show (L.map Sp.wr)[i]? = some s.wr by rw [List.getElem?_map, hs]; rfl)
        have hba : Below wr.heap.size wr (wr.alloc (.cells #[.string s.val, .int .i64 s.e, .int .i64 s.b] 63)) := (Below.refl _ _).alloc (Nat.le_refl _) _
        have hp := heap_alloc_self wr (.cells #[.string s.val, .int .i64 s.e, .int .i64 s.b] 63)
        have k3' := (hba.cell (p := ⟨wb, wo + i, none⟩) hwb).trans k3
        obtain ⟨P, hP⟩ : ∃ P, wr.heap.size = P := ⟨_, rfl⟩
        rw [hP] at hp
        have H6 := Lib.hid (And.intro (HB.out.trans (hba.mono HB.out.size)) (And.intro hp hs))
        clear hsb hwb k3 hba HB hs
        go_upto_region 7 with fail
        try rw [hP]
        generalize wr.alloc (.cells #[.string s.val, .int .i64 s.e, .int .i64 s.b] 63) = w6 at *
        have x0 := cell_atF hp 0 (v := .string s.val) rfl
        have x1 := cell_atF hp 1 (v := .int .i64 s.e) rfl
        have x2 := cell_atF hp 2 (v := .int .i64 s.b) rfl
        clear hp k0 k1 k2 hP
        have him : (i : Int) < (m : Int) := by omega
        by_cases hbad : 0 < i ∧ s.e ≤ s.wr
        · obtain ⟨hi0, hbe⟩ := hbad
          have hi0' : (0 : Int) < (i : Int) := by omega
          have hi1 : decide ((0 : Int) < (i : Int)) = true := by simpa using hi0'
          have hbe' : decide (s.e ≤ s.wr) = true := by simpa using hbe
          have hF : ¬ FitsO (spansL initS us) := by
            rw [HLL.out]
            intro h
            have := (h i s H6.out.2.2).1
            omega
          have HF := Lib.hid (And.intro hF (H2.out.2.2.1.trans (H6.out.1.mono H2.out.2.2.1.size)))
          clear hF
          go_quiet (fail)
          go_wp2_with fail
          go_returns
          exact ⟨false, rfl, ⟨fun h => Bool.noConfusion h, fun h => absurd h HF.out.1⟩, by first | exact HF.out.2 | exact below_drewN' HF.out.2 _⟩
        · go_cut [42] (fun v wx => v = .bool false ∧ Below w6.heap.size w6 wx)
          case first =>
            by_cases hi0 : i = 0
            · have hi0' : ¬ ((0 : Int) < (i : Int)) := by omega
              have hi2 : ¬ (0 < i) := by omega
              have hi3 : decide (0 < i) = false := by simpa using hi2
              clear hbad hi0 hi0'
              go_quiet (fail)
              go_wp2_with fail
              go_meet
              exact ⟨rfl, by first | exact Below.refl _ _ | exact below_drewN' (Below.refl _ _) _⟩
            · have hi0' : (0 : Int) < (i : Int) := by omega
              have hi2 : 0 < i := by omega
              have hi1 : decide ((0 : Int) < (i : Int)) = true := by simpa using hi0'
              have hbe : ¬ (s.e ≤ s.wr) := fun h => hbad ⟨by omega, h⟩
              have hbe' : decide (s.e ≤ s.wr) = false := by simpa using hbe
              clear hbad
              go_quiet (fail)
              go_wp2_with fail
              go_meet
              exact ⟨rfl, by first | exact Below.refl _ _ | exact below_drewN' (Below.refl _ _) _⟩
          case rest =>
            obtain ⟨hs42, hbc⟩ := hcut
            subst hs42
            have hbw : i = 0 ∨ s.wr < s.e := by
              rcases Nat.eq_zero_or_pos i with h | h
              · exact .inl h
              · exact .inr (by rcases Int.lt_or_le s.wr s.e with h2 | h2; exact h2; exact absurd ⟨h, h2⟩ hbad)
            have hpc := below_at hbc (lt_heap H6.out.2.1) H6.out.2.1
            have HC := Lib.hid (And.intro (H6.out.1.trans (hbc.mono H6.out.1.size)) (And.intro hpc hbw))
            have him2 : (i : Int) ≤ (m : Int) := by omega
            have hisc : (i : Int) ≤ (sc : Int) := by omega
            clear hbc hpc hbw hbad x0 x1 x2 k3'
            go_wp2_with fail
            go_loopw [47] (fun kv wx => ∃ k : Nat, k ≤ i ∧ kv = .int .i64 (k : Int) ∧ Hid (∀ k' o, k' < k → L[k']? = some o → clashB s o = false ∧ clashB o s = false) ∧ Hid (Below wc.heap.size wc wx)) (fun kv _ => i - (intOf kv).toNat)
            case atStart => exact ⟨0, Nat.zero_le _, rfl, Lib.hid fun k' o h => absurd h (Nat.not_lt_zero k'), Lib.hid (Below.refl _ _)⟩
            case round =>
              obtain ⟨k, hk, rfl, HK, HD⟩ := hrel
              have hb2r : Below w2.heap.size w2 wr := HC.out.1.trans (HD.out.mono HC.out.1.size)
              have hpr := below_at HD.out (lt_heap HC.out.2.1) HC.out.2.1
              by_cases hki : k < i
              · obtain ⟨o, ho⟩ : ∃ o, L[k]? = some o := ⟨_, List.getElem?_eq_getElem (by have := H2.out.2.2.2; omega)⟩
                obtain ⟨sb2, so2, e9, hsb2, k0, k1, k2⟩ := sp_cells (H2.out.1.below hb2r) ho
                have e9 := Option.some.inj e9
                have e91 : sb2 = sb := by have := congrArg Addr.block e9; simpa using this.symm
                have e92 : so2 = so := by have := congrArg Addr.off e9; simpa using this.symm
                subst e91 e92
                have hba : Below wr.heap.size wr (wr.alloc (.cells #[.string o.val, .int .i64 o.e, .int .i64 o.b] 63)) := (Below.refl _ _).alloc (Nat.le_refl _) _
                have hq := heap_alloc_self wr (.cells #[.string o.val, .int .i64 o.e, .int .i64 o.b] 63)
                have hp7 := below_at hba (lt_heap hpr) hpr
                obtain ⟨Q, hQ⟩ : ∃ Q, wr.heap.size = Q := ⟨_, rfl⟩
                rw [hQ] at hq
                have H7 := Lib.hid (And.intro (HD.out.trans (hba.mono HD.out.size)) (And.intro hp7 (And.intro hq (And.intro ho (hb2r.trans (hba.mono hb2r.size))))))
                have c1 := pclash s o
                have c2 := pclash o s
                clear hba hp7 hb2r hpr ho hsb2 e9 HD
                have hki' : (k : Int) < (i : Int) := by omega
                go_upto_region 12 with fail
                try rw [hQ]
                generalize wr.alloc (.cells #[.string o.val, .int .i64 o.e, .int .i64 o.b] 63) = w7 at *
                clear k0 k1 k2 hQ
                have x0 := cell_atF H7.out.2.1 0 (v := .string s.val) rfl
                have x1 := cell_atF H7.out.2.1 1 (v := .int .i64 s.e) rfl
                have x2 := cell_atF H7.out.2.1 2 (v := .int .i64 s.b) rfl
                have y0 := cell_atF hq 0 (v := .string o.val) rfl
                have y1 := cell_atF hq 1 (v := .int .i64 o.e) rfl
                have y2 := cell_atF hq 2 (v := .int .i64 o.b) rfl
                clear hq
                obtain ⟨b1, hb1⟩ : ∃ b1, clashB s o = b1 := ⟨_, rfl⟩
                obtain ⟨b2, hb2⟩ : ∃ b2, clashB o s = b2 := ⟨_, rfl⟩
                rw [hb1] at c1
                rw [hb2] at c2
                have HBB := Lib.hid (And.intro hb1 hb2)
                have hbadF : b1 = true ∨ b2 = true → ¬ FitsO (spansL initS us) := fun hh => by
                  rw [HLL.out]
                  intro h
                  have := (h i s H6.out.2.2).2 k o hki H7.out.2.2.2.1
                  rw [hb1, hb2] at this
                  rcases hh with hh | hh
                  · rw [hh] at this; exact Bool.noConfusion this.1
                  · rw [hh] at this; exact Bool.noConfusion this.2
                have HBF := Lib.hid hbadF
                clear hb1 hb2 hbadF
                cases b1
                · go_wp2_with fail
                  refine Calls.mono (c1 _) ?_
                  rintro e w8 ⟨rfl, hb8⟩
                  have hp8 := below_at hb8 (lt_heap H7.out.2.1) H7.out.2.1
                  have hq8 := below_at hb8 (lt_heap H7.out.2.2.1) H7.out.2.2.1
                  have H8 := Lib.hid (And.intro (H7.out.1.trans (hb8.mono H7.out.1.size)) (H7.out.2.2.2.2.trans (hb8.mono H7.out.2.2.2.2.size)))
                  clear x0 x1 x2 y0 y1 y2 hb8 c1
                  have x0 := cell_atF hp8 0 (v := .string s.val) rfl
                  have x1 := cell_atF hp8 1 (v := .int .i64 s.e) rfl
                  have x2 := cell_atF hp8 2 (v := .int .i64 s.b) rfl
                  have y0 := cell_atF hq8 0 (v := .string o.val) rfl
                  have y1 := cell_atF hq8 1 (v := .int .i64 o.e) rfl
                  have y2 := cell_atF hq8 2 (v := .int .i64 o.b) rfl
                  clear hp8 hq8
                  go_wp2_with fail
                  refine Calls.mono (c2 _) ?_
                  rintro e w9 ⟨rfl, hb9⟩
                  have H9 := Lib.hid (And.intro (H8.out.1.trans (hb9.mono H8.out.1.size)) (H2.out.2.2.1.trans ((H8.out.2.trans (hb9.mono H8.out.2.size)).mono H2.out.2.2.1.size)))
                  clear x0 x1 x2 y0 y1 y2 hb9 c2
                  cases b2
                  · have hnx : ∀ k' o', k' < k + 1 → L[k']? = some o' → clashB s o' = false ∧ clashB o' s = false := fun k' o' h1 h2 => by
                      rcases Nat.lt_or_ge k' k with q | q
                      · exact HK.out k' o' q h2
                      · obtain rfl : k' = k := by omega
                        rw [H7.out.2.2.2.1] at h2
                        cases h2
                        exact HBB.out
                    have HNX := Lib.hid hnx
                    clear hnx
                    go_wp2_with fail
                    go_roundw
                    case rel => exact ⟨k + 1, by omega, by go_num, HNX, Lib.hid H9.out.1⟩
                    case measure => simp [intOf]; omega
                  · go_wp2_with fail
                    go_returns
                    exact ⟨false, rfl, ⟨fun h => Bool.noConfusion h, fun h => absurd h (HBF.out (by simp))⟩, H9.out.2⟩
                · go_wp2_with fail
                  refine Calls.mono (c1 _) ?_
                  rintro e w8 ⟨rfl, hb8⟩
                  have H8 := Lib.hid (H2.out.2.2.1.trans ((H7.out.2.2.2.2.trans (hb8.mono H7.out.2.2.2.2.size)).mono H2.out.2.2.1.size))
                  clear x0 x1 x2 y0 y1 y2 hb8 c1
                  go_wp2_with fail
                  go_returns
                  exact ⟨false, rfl, ⟨fun h => Bool.noConfusion h, fun h => absurd h (HBF.out (by simp))⟩, H8.out⟩
              · obtain rfl : k = i := by omega
                have hfit : ∀ q, q < k + 1 → FitAt L q := fun q hq => by
                  rcases Nat.lt_or_ge q k with h | h
                  · exact HG.out q h
                  · obtain rfl : q = k := by omega
                    intro s' hs'
                    rw [H6.out.2.2] at hs'
                    cases hs'
                    exact ⟨HC.out.2.2, HK.out⟩
                have HFI := Lib.hid hfit
                have HB2R := Lib.hid hb2r
                clear hfit hb2r hpr
                go_wp2_with fail
                exact ⟨⟨k + 1, by omega, by go_num, HFI, HB2R⟩, by simp [intOf]; omega⟩
      · obtain rfl : i = m := by omega
        have hfit : FitsO (spansL initS us) := by
          rw [HLL.out]
          intro q
          rcases Nat.lt_or_ge q i with h | h
          · exact HG.out q h
          · intro s' hs'
            rw [List.getElem?_eq_none (by have := H2.out.2.2.2; omega)] at hs'
            cases hs'
        have HFI := Lib.hid (And.intro hfit (H2.out.2.2.1.trans (HB.out.mono H2.out.2.2.1.size)))
        clear hfit
        go_wp2_with fail
        go_returns
        exact ⟨true, rfl, ⟨fun _ => HFI.out.1, fun _ => rfl⟩, HFI.out.2⟩
end Go.Proofs.Ytodjlaapmbnahaa
/-
  flat.Spans: how many spans a block has, and whether each value was written once.
-/

namespace Go.Proofs.Ytodjlaapmbnahaa
open Go.RowKit
set_option linter.unusedVariables false
set_option linter.unusedSimpArgs false

def FSpP (x : Option (List Sp)) (w : World) (e : Ending) (w' : World) : Prop := (match x with
  | none => e = .returned (.tuple #[.slice none 0 0, .bool false])
  | some L => ∃ a c, e = .returned (.tuple #[.slice a L.length c, .bool true])) ∧ Below w.heap.size w w'
set_option maxHeartbeats 3200000 in
set_option maxRecDepth 100000 in
theorem pfspans (E : List Ev) (B block : Int) (v : Value) (w : World) (hE : Elts w Ev.c 10 v E) (hok : ∀ e ∈ E, EvOk e) (hn : E.length ≤ 2000) (hus : ∀ u ∈ usesN E B block E.length, UsOk u) :
    Calls Try.prog 7 #[v, .int .i64 B, .int .i64 block] w (FSpP (spansL initS (usesN E B block E.length)) w) := by
  have c1 := puses E B block v w hE hok (by omega)
  have hul := uses_len E B block E.length
  obtain ⟨us, hus'⟩ : ∃ us, usesN E B block E.length = us := ⟨_, rfl⟩
  unfold UsesP at c1
  rw [hus'] at c1 hul hus ⊢
  clear hus'
  go_enter Try.func7, Try.ntmps7
  go_wp2_with fail
  refine Calls.mono c1 ?_
  rintro e w1 ⟨uv, rfl, hown, hb1⟩
  have c2 := pspans us (by omega) hus uv w1 (elts_sr (c := Us.c) (sz := 4) (fun _ => rfl) (SR.owns hown))
  have HB1 := Lib.hid hb1
  clear c1 hb1 hown hE
  go_wp2_with fail
  refine Calls.mono c2 ?_
  rintro e w2 hsp
  unfold SpansP at hsp
  change (match spansL initS us with | none => _ | some L => _) at hsp
  clear c2
  cases hL : spansL initS us with
  | none =>
    rw [hL] at hsp
    obtain ⟨rfl, hb2⟩ := hsp
    have HF := Lib.hid (HB1.out.trans (hb2.mono HB1.out.size))
    clear hb2
    go_wp2_with fail
    go_returns
    rw [hL]
    exact ⟨rfl, HF.out⟩
  | some L =>
    rw [hL] at hsp
    obtain ⟨sv, wv, rfl, hs, hw, hb2⟩ := hsp
    have HF := Lib.hid (HB1.out.trans (hb2.mono HB1.out.size))
    obtain ⟨sa, sc, rfl⟩ := rowForm hs
    clear hb2 hs hw
    go_wp2_with fail
    go_returns
    rw [hL]
    exact ⟨⟨sa, sc, rfl⟩, HF.out⟩
end Go.Proofs.Ytodjlaapmbnahaa
/-
  Which uses fit: a certificate of intervals. Of no program but for the names.
-/

namespace Go.Proofs.Ytodjlaapmbnahaa
open Go.RowKit
set_option linter.unusedVariables false
set_option linter.unusedSimpArgs false

theorem clash_no {s o : Sp} {ls hs lo ho : Int} (h1 : ls ≤ s.e) (h2 : s.b < hs) (h3 : lo ≤ o.e) (h4 : o.b < ho) (h : hs ≤ lo ∨ ho ≤ ls) : clashB s o = false := by
  unfold clashB fwd
  by_cases a : s.e < s.b
  · by_cases b : o.e < o.b
    · have : ¬ (max s.e o.e < min s.b o.b) := by omega
      simp [a, b, this]
    · simp only [decide_eq_true a, decide_eq_false b, Bool.true_and, Bool.false_eq_true, if_false]
      by_cases c : s.e < o.b
      · by_cases d : o.b < s.b
        · by_cases e : s.e < o.e
          · by_cases f : o.e < s.b
            · omega
            · simp [f]
          · simp [e]
        · simp [d]
      · simp [c]
  · simp [a]
theorem clash_far {s o : Sp} (h1 : ¬ s.e < s.b) : clashB s o = false := by unfold clashB fwd; simp [h1]
def newS (v : ByteArray) : Sp := ⟨v, NV, -1, NV⟩
theorem step_spec {L : List Sp} {u : Us} (hnd : (L.map Sp.val).Nodup) : ∃ s : Sp, ((s ∈ L) ∨ (s = newS u.val ∧ ∀ t ∈ L, t.val ≠ u.val)) ∧ s.val = u.val ∧ isW (withV L u.val) (ixV L u.val) = decide (s.wr ≠ NV) ∧
    (∀ t, t ∈ (withV L u.val).modify (ixV L u.val) (fun s => s.upd u) → t = s.upd u ∨ (t ∈ L ∧ t.val ≠ u.val)) ∧ s.upd u ∈ (withV L u.val).modify (ixV L u.val) (fun s => s.upd u) ∧
    (∀ t ∈ L, t.val ≠ u.val → t ∈ (withV L u.val).modify (ixV L u.val) (fun s => s.upd u)) ∧ (((withV L u.val).modify (ixV L u.val) (fun s => s.upd u)).map Sp.val).Nodup ∧
    ∃ r, ((withV L u.val).modify (ixV L u.val) (fun s => s.upd u)).map Sp.val = L.map Sp.val ++ r := by
  have hvm := vals_modify (withV L u.val) (ixV L u.val) u
  have key : ∀ (l : List Sp) (i : Nat) (s : Sp), l[i]? = some s → s.val = u.val → (l.map Sp.val).Nodup → (∀ t, t ∈ l.modify i (fun s => s.upd u) → t = s.upd u ∨ (t ∈ l ∧ t.val ≠ u.val)) ∧ s.upd u ∈ l.modify i (fun s => s.upd u) ∧ ∀ t ∈ l, t.val ≠ u.val → t ∈ l.modify i (fun s => s.upd u) := by
    intro l i s hs hv hn
    have hne : ∀ j t, j ≠ i → l[j]? = some t → t.val ≠ u.val := by
      intro j t hj ht e
      have h1 : (l.map Sp.val)[j]? = some u.val := by rw [List.getElem?_map, ht]; exact congrArg some e
      have h2 : (l.map Sp.val)[i]? = some u.val := by rw [List.getElem?_map, hs]; exact congrArg some hv
      have h3 := (List.getElem?_inj (List.getElem?_eq_some_iff.1 h1).1 hn).1 (h1.trans h2.symm)
      exact hj h3
    refine ⟨fun t ht => ?_, ?_, fun t ht hne' => ?_⟩
    · obtain ⟨j, hj⟩ := List.mem_iff_getElem?.1 ht
      rw [List.getElem?_modify] at hj
      by_cases hji : i = j
      · subst hji
        rw [hs] at hj
        simp at hj
        exact .inl hj.symm
      · simp [hji] at hj
        exact .inr ⟨List.mem_of_getElem? hj, hne j t (Ne.symm hji) hj⟩
    · refine List.mem_iff_getElem?.2 ⟨i, ?_⟩
      rw [List.getElem?_modify, hs]
      simp
    · obtain ⟨j, hj⟩ := List.mem_iff_getElem?.1 ht
      refine List.mem_iff_getElem?.2 ⟨j, ?_⟩
      rw [List.getElem?_modify]
      by_cases hji : i = j
      · subst hji
        rw [hs] at hj
        cases hj
        exact absurd hv hne'
      · simp [hji, hj]
  cases h : spIx L u.val with
  | some i =>
    have e1 : withV L u.val = L := by unfold withV; rw [h]
    have e2 : ixV L u.val = i := by unfold ixV; rw [h]
    obtain ⟨hi, hv, -⟩ := List.findIdx?_eq_some_iff_getElem.1 h
    have hv' : L[i].val = u.val := by simpa using hv
    have hs : L[i]? = some L[i] := List.getElem?_eq_getElem hi
    rw [e1, e2] at hvm ⊢
    obtain ⟨k1, k2, k3⟩ := key L i L[i] hs hv' hnd
    exact ⟨L[i], .inl (List.getElem_mem hi), hv', by unfold isW; rw [hs], k1, k2, k3, by rw [hvm]; exact hnd, [], by rw [hvm, List.append_nil]⟩
  | none =>
    have e1 : withV L u.val = L ++ [newS u.val] := by unfold withV; rw [h]; rfl
    have e2 : ixV L u.val = L.length := by unfold ixV; rw [h]
    have hno : ∀ t ∈ L, t.val ≠ u.val := by
      intro t ht e
      have := List.findIdx?_eq_none_iff.1 h t ht
      simp [e] at this
    have hs : (L ++ [newS u.val])[L.length]? = some (newS u.val) := by simp
    have hnd2 : ((L ++ [newS u.val]).map Sp.val).Nodup := by
      rw [List.map_append]
      refine List.nodup_append.2 ⟨hnd, by simp, ?_⟩
      intro a ha b hb
      obtain ⟨t, ht, rfl⟩ := List.mem_map.1 ha
      simp [newS] at hb
      rw [hb]
      exact hno t ht
    rw [e1, e2] at hvm ⊢
    obtain ⟨k1, k2, k3⟩ := key _ L.length (newS u.val) hs rfl hnd2
    refine ⟨newS u.val, .inr ⟨rfl, hno⟩, rfl, by unfold isW; rw [hs], fun t ht => ?_, k2, fun t ht hne => k3 t (List.mem_append_left _ ht) hne, by rw [hvm]; exact hnd2, [u.val], by rw [hvm, List.map_append]; rfl⟩
    rcases k1 t ht with q | ⟨q1, q2⟩
    · exact .inl q
    · rcases List.mem_append.1 q1 with q | q
      · exact .inr ⟨q, q2⟩
      · rw [List.mem_singleton.1 q] at q2
        exact absurd rfl q2
/-- intervals in which values were there -/
structure Cert (us : List Us) (I : ByteArray → Int × Int) : Prop where
  z : (I (zeroL 32)).1 ≤ -1 ∧ -1 < (I (zeroL 32)).2
  u : ∀ u ∈ us, (I u.val).1 ≤ u.til ∧ u.from_ < (I u.val).2 ∧ 0 ≤ u.from_ ∧ u.from_ < NV
  lt : ∀ v, (I v).1 ≤ NV
  ord : ∀ v1 v2, v1 ≠ v2 → (v1 = zeroL 32 ∨ ∃ u ∈ us, u.val = v1) → (v2 = zeroL 32 ∨ ∃ u ∈ us, u.val = v2) → (I v1).2 ≤ (I v2).1 ∨ (I v2).2 ≤ (I v1).1 ∨ ((I v1).1 = NV ∧ (I v2).1 = NV)
  once : us.Pairwise fun a b => a.wr = true → b.wr = true → a.val ≠ b.val
  nz : ∀ u ∈ us, u.wr = true → u.val ≠ zeroL 32
  has : ∀ u ∈ us, u.val ≠ zeroL 32 → ∃ x ∈ us, x.wr = true ∧ x.val = u.val ∧ x.from_ < (I u.val).1
structure SInv (I : ByteArray → Int × Int) (pre : List Us) (L : List Sp) : Prop where
  head : ∃ r, L.map Sp.val = zeroL 32 :: r
  nd : (L.map Sp.val).Nodup
  bd : ∀ s ∈ L, (I s.val).1 ≤ s.e ∧ s.b < (I s.val).2 ∧ s.b < NV
  vd : ∀ s ∈ L, s.val = zeroL 32 ∨ ∃ u ∈ pre, u.val = s.val
  wr : ∀ s ∈ L, s.val = zeroL 32 ∨ (s.wr ≠ NV → ∃ x ∈ pre, x.wr = true ∧ x.val = s.val ∧ s.wr = x.from_)
  ws : ∀ x ∈ pre, x.wr = true → ∀ s ∈ L, s.val = x.val → s.wr = x.from_
  all : ∀ x ∈ pre, ∃ s ∈ L, s.val = x.val
theorem sinv_step {I : ByteArray → Int × Int} {us pre post : List Us} {u : Us} {L : List Sp} (hc : Cert us I) (he : us = pre ++ u :: post) (h : SInv I pre L) : ∃ L', spStep L u = some L' ∧ SInv I (pre ++ [u]) L' := by
  have hu : u ∈ us := by rw [he]; simp
  obtain ⟨s, hs, hsv, hw, k1, k2, k3, k4, r, k5⟩ := step_spec (u := u) h.nd
  have hpre : ∀ x ∈ pre, x ∈ us := fun x hx => by rw [he]; simp [hx]
  have honce : u.wr = true → ∀ x ∈ pre, x.wr = true → x.val ≠ u.val := fun hu1 x hx hx1 => by
    have := hc.once
    rw [he] at this
    exact (List.pairwise_append.1 this).2.2 x hx u (List.mem_cons_self ..) hx1 hu1
  have hnw : u.wr = true → s.wr = NV := fun hu1 => by
    rcases hs with hs | ⟨hs, -⟩
    · rcases h.wr s hs with q | q
      · exact absurd (hsv.symm.trans q) (hc.nz u hu hu1)
      · refine Classical.byContradiction fun hn => ?_
        obtain ⟨x, hx, hx1, hx2, -⟩ := q hn
        exact honce hu1 x hx hx1 (hx2.trans hsv)
    · rw [hs]; rfl
  obtain ⟨c1, c2, c3, c4⟩ := hc.u u hu
  have hbs : (I u.val).1 ≤ s.e ∧ s.b < (I u.val).2 ∧ s.b < NV := by
    rcases hs with hs | ⟨hs, -⟩
    · have := h.bd s hs
      rw [hsv] at this
      exact this
    · rw [hs]
      exact ⟨hc.lt _, by show (-1 : Int) < _; omega, by show (-1 : Int) < NV; decide⟩
  refine ⟨(withV L u.val).modify (ixV L u.val) (fun s => s.upd u), ?_, ?_⟩
  · unfold spStep
    rw [hw]
    cases hu1 : u.wr
    · rfl
    · rw [hnw hu1]; simp
  · have hsu : (s.upd u).val = u.val := hsv
    refine ⟨?_, k4, fun t ht => ?_, fun t ht => ?_, fun t ht => ?_, fun x hx hx1 t ht htv => ?_, fun x hx => ?_⟩
    · obtain ⟨r0, hr0⟩ := h.head
      exact ⟨r0 ++ r, by rw [k5, hr0]; rfl⟩
    · rcases k1 t ht with rfl | ⟨q, -⟩
      · rw [hsu]
        unfold Sp.upd
        refine ⟨?_, ?_, ?_⟩
        · show _ ≤ min s.e u.til; omega
        · show max s.b u.from_ < _; omega
        · show max s.b u.from_ < _; omega
      · exact h.bd t q
    · rcases k1 t ht with rfl | ⟨q, -⟩
      · exact .inr ⟨u, by simp, hsu.symm⟩
      · rcases h.vd t q with q2 | ⟨x, hx, hx2⟩
        · exact .inl q2
        · exact .inr ⟨x, List.mem_append_left _ hx, hx2⟩
    · rcases k1 t ht with rfl | ⟨q, -⟩
      · by_cases hz : u.val = zeroL 32
        · exact .inl (hsu.trans hz)
        · refine .inr fun hn => ?_
          cases hu1 : u.wr
          · have e : (s.upd u).wr = s.wr := by unfold Sp.upd; rw [hu1]; rfl
            rw [e] at hn ⊢
            rcases hs with hs | ⟨hs, -⟩
            · rcases h.wr s hs with q | q
              · exact absurd (hsv.symm.trans q) hz
              · obtain ⟨x, hx, hx1, hx2, hx3⟩ := q hn
                exact ⟨x, List.mem_append_left _ hx, hx1, hx2, hx3⟩
            · rw [hs] at hn; exact absurd rfl hn
          · have e : (s.upd u).wr = u.from_ := by unfold Sp.upd; rw [hu1]; rfl
            exact ⟨u, by simp, hu1, hsu.symm, e⟩
      · rcases h.wr t q with q2 | q2
        · exact .inl q2
        · refine .inr fun hn => ?_
          obtain ⟨x, hx, hx1, hx2, hx3⟩ := q2 hn
          exact ⟨x, List.mem_append_left _ hx, hx1, hx2, hx3⟩
    · rcases List.mem_append.1 hx with q | q
      · rcases k1 t ht with rfl | ⟨q2, q3⟩
        · cases hu1 : u.wr
          · have e : (s.upd u).wr = s.wr := by unfold Sp.upd; rw [hu1]; rfl
            rw [e]
            rcases hs with hs | ⟨hs, hno⟩
            · exact h.ws x q hx1 s hs (hsv.trans (hsu.symm.trans htv))
            · obtain ⟨t2, ht2, ht3⟩ := h.all x q
              exact absurd (ht3.trans (htv.symm.trans hsu)) (hno t2 ht2)
          · exact absurd (htv.symm.trans hsu) (honce hu1 x q hx1)
        · exact h.ws x q hx1 t q2 htv
      · obtain rfl := List.mem_singleton.1 q
        rcases k1 t ht with rfl | ⟨q2, q3⟩
        · unfold Sp.upd; rw [hx1]; rfl
        · exact absurd htv q3
    · rcases List.mem_append.1 hx with q | q
      · obtain ⟨t, ht, htv⟩ := h.all x q
        by_cases hxu : t.val = u.val
        · exact ⟨_, k2, hsu.trans (hxu.symm.trans htv)⟩
        · exact ⟨t, k3 t ht hxu, htv⟩
      · obtain rfl := List.mem_singleton.1 q
        exact ⟨_, k2, hsu⟩
theorem sinv_all {I : ByteArray → Int × Int} {us : List Us} (hc : Cert us I) : ∀ (post pre : List Us) (L : List Sp), us = pre ++ post → SInv I pre L → ∃ L', spansL L post = some L' ∧ SInv I us L'
  | [], pre, L, he, h => ⟨L, rfl, by rw [he, List.append_nil]; exact h⟩
  | u :: post, pre, L, he, h => by
    obtain ⟨L1, h1, h2⟩ := sinv_step hc he h
    obtain ⟨L2, h3, h4⟩ := sinv_all hc post (pre ++ [u]) L1 (by rw [he]; simp) h2
    exact ⟨L2, by rw [spansL, h1]; exact h3, h4⟩
/-- what has such intervals fits -/
theorem cert_fits {I : ByteArray → Int × Int} {us : List Us} (hc : Cert us I) : ∃ L, spansL initS us = some L ∧ 1 ≤ L.length ∧ ∀ i, FitAt L i := by
  have h0 : SInv I [] initS := by
    refine ⟨⟨[], rfl⟩, by simp [initS], fun s hs => ?_, fun s hs => .inl ?_, fun s hs => .inl ?_, fun x hx => by simp at hx, fun x hx => by simp at hx⟩
    · obtain rfl := List.mem_singleton.1 hs
      exact ⟨hc.z.1, hc.z.2, by decide⟩
    · rw [List.mem_singleton.1 hs]
    · rw [List.mem_singleton.1 hs]
  obtain ⟨L, h1, h2⟩ := sinv_all hc us [] initS rfl h0
  obtain ⟨r, hr⟩ := h2.head
  refine ⟨L, h1, ?_, fun i s hs => ⟨?_, fun k o hk ho => ?_⟩⟩
  · have := congrArg List.length hr
    rw [List.length_map] at this
    simp at this
    omega
  · have hm := List.mem_of_getElem? hs
    by_cases hz : s.val = zeroL 32
    · left
      have e1 : (L.map Sp.val)[i]? = some (zeroL 32) := by rw [List.getElem?_map, hs, ← hz]; rfl
      have e2 : (L.map Sp.val)[0]? = some (zeroL 32) := by rw [hr]; rfl
      exact (List.getElem?_inj (List.getElem?_eq_some_iff.1 e1).1 h2.nd).1 (e1.trans e2.symm)
    · right
      obtain ⟨u, hu, huv⟩ := (h2.vd s hm).resolve_left hz
      obtain ⟨x, hx, hx1, hx2, hx3⟩ := hc.has u hu (by rw [huv]; exact hz)
      have := h2.ws x hx hx1 s hm (by rw [hx2, huv])
      have hb := (h2.bd s hm).1
      rw [huv] at hx3
      omega
  · have hm := List.mem_of_getElem? hs
    have hmo := List.mem_of_getElem? ho
    have hne : s.val ≠ o.val := by
      intro e
      have e1 : (L.map Sp.val)[i]? = some s.val := by rw [List.getElem?_map, hs]; rfl
      have e2 : (L.map Sp.val)[k]? = some s.val := by rw [List.getElem?_map, ho, e]; rfl
      have := (List.getElem?_inj (List.getElem?_eq_some_iff.1 e1).1 h2.nd).1 (e1.trans e2.symm)
      omega
    obtain ⟨a1, a2, a3⟩ := h2.bd s hm
    obtain ⟨b1, b2, b3⟩ := h2.bd o hmo
    rcases hc.ord s.val o.val hne (h2.vd s hm) (h2.vd o hmo) with q | q | ⟨q1, q2⟩
    · exact ⟨clash_no a1 a2 b1 b2 (.inl q), clash_no b1 b2 a1 a2 (.inr q)⟩
    · exact ⟨clash_no a1 a2 b1 b2 (.inr q), clash_no b1 b2 a1 a2 (.inl q)⟩
    · exact ⟨clash_far (by omega), clash_far (by omega)⟩
end Go.Proofs.Ytodjlaapmbnahaa
