/-
  Several texts, laid together.
-/
import Derived.Test.YtadejhlljdcocaaMg30
/-
  extent.Rising and Eldest.
-/

namespace Go.Proofs.Ytadejhlljdcocaa
open Go.RowKit
set_option linter.unusedVariables false
set_option linter.unusedSimpArgs false

set_option maxHeartbeats 1600000 in
set_option maxRecDepth 100000 in
theorem stable0 (a : Option Addr) (cap : Nat) (w : World) :
    Calls Try.prog 116 #[.slice a 0 cap, .func (.func 117) #[] #[]] w fun e w' => e = .returned (.tuple #[]) ∧ w' = w := by
  have ci : Calls Try.prog 189 #[.slice a 0 cap, .int .i64 0, .int .i64 0, .func (.func 117) #[] #[]] w fun e w' => e = .returned (.tuple #[]) ∧ w' = w := by
    go_enter Try.func189, Try.ntmps189
    go_wp2_with fail
    go_loopw [8] (fun i wr => i = .int .i64 1 ∧ wr = w) (fun _ _ => 0)
    case atStart => exact ⟨rfl, rfl⟩
    case round =>
      obtain ⟨rfl, rfl⟩ := hrel
      go_wp2_with fail
      go_end0
      exact ⟨rfl, rfl⟩
  have cs : Calls Try.prog 157 #[.slice a 0 cap, .int .i64 0, .func (.func 117) #[] #[]] w fun e w' => e = .returned (.tuple #[]) ∧ w' = w := by
    go_enter Try.func157, Try.ntmps157
    go_wp2_with fail
    go_loopw [7, 8] (fun x y wr => x = .int .i64 0 ∧ y = .int .i64 20 ∧ wr = w) (fun _ _ _ => 0)
    case atStart => exact ⟨rfl, rfl, rfl⟩
    case round =>
      obtain ⟨rfl, rfl, rfl⟩ := hrel
      go_wp2_with fail
      refine Calls.mono ci ?_
      rintro e w1 ⟨rfl, rfl⟩
      go_wp2_with fail
      go_loopw [6] (fun x wr => x = .int .i64 20 ∧ wr = w1) (fun _ _ => 0)
      case atStart => exact ⟨rfl, rfl⟩
      case round =>
        obtain ⟨rfl, rfl⟩ := hrel
        go_wp2_with fail
        go_end0
        exact ⟨rfl, rfl⟩
  clear ci
  go_enter Try.func116, Try.ntmps116
  go_wp2_with fail
  refine Calls.mono cs ?_
  rintro e w1 ⟨rfl, rfl⟩
  go_wp2_with fail
  go_end0
  exact ⟨rfl, rfl⟩
theorem own_row {w : World} {base n size : Nat} {e : TypeId} {v : Value} {xs : List Value} (h : w.ownsRow base e size v n xs) (h0 : 0 < n) : ∃ g cap, v = .slice (some ⟨g, 0, none⟩) n cap ∧ n ≤ cap ∧ cap ≤ maxLen := by
  rcases h.2 with ⟨rfl, q⟩ | ⟨g, cap, cur, rfl, hb, hg, hnc, hcm, hcs, ht⟩
  · omega
  · exact ⟨g, cap, rfl, hnc, hcm⟩
set_option maxHeartbeats 1600000 in
set_option maxRecDepth 100000 in
/-- extent.Rising -/
theorem rise (L : List HI) (hn : L.length < 20) (w : World) (v : Value) (hv : SR w v 3 L.length (hCells L)) :
    Calls Try.prog 65 #[v] w fun e w' => ∃ v', e = .returned v' ∧ SR w' v' 3 L.length (hCells (riseL L)) ∧ Below w.heap.size w w' := by
  obtain ⟨i0, hi, hz0, hz1, hz2⟩ := info_parts info_held
  obtain ⟨a, cap, rfl, hlc, hcm⟩ := hv.form
  unfold maxLen at hcm
  have HV := Lib.hid hv
  clear hv
  go_enter Try.func65, Try.ntmps65
  go_wp2_with (at_builtin; refine wp_app Try.underlying81 hi hz0 hz1 hz2 rfl (by decide) rfl (.const (.slice none 0 0)) (.tmp 4) rfl w.heap.size (.slice none 0 0) 0 [] rfl (World.ownsRow_nil _ _ _ _) _ L.length (hCells L) rfl HV.out ?c1 ?c2 ?c3 ?c4 ?_)
  case c1 => exact hCells_one L
  case c2 => unfold maxLen; omega
  case c3 => omega
  case c4 => exact Nat.le_refl _
  intro v2 w2 hown hgr
  have hb2 := below_app (Below.refl w.heap.size w) hgr (World.ownsRow_nil w w.heap.size 125 3) (Nat.le_refl _) (Nat.le_refl _)
  rcases Nat.eq_zero_or_pos L.length with h0 | h0
  · obtain rfl : L = [] := List.eq_nil_of_length_eq_zero h0
    obtain ⟨a2, c2, rfl, -, -⟩ := (SR.owns hown).form
    have HS := Lib.hid (And.intro (SR.owns hown) hb2)
    have cs := stable0 a2 c2 w2
    simp only [List.length_nil] at *
    clear hown hgr hb2
    go_wp2_with fail
    refine Calls.mono cs ?_
    rintro e w3 ⟨rfl, rfl⟩
    go_wp2_with fail
    go_ret
    exact ⟨_, rfl, HS.out.1, HS.out.2⟩
  · obtain ⟨g, c2, rfl, hnc, hc2⟩ := own_row hown h0
    have cs := stableH w.heap.size g L.length c2 L w2 rfl hn h0 hnc hc2 hb2.size ⟨hown, Below.refl _ _⟩
    have HB := Lib.hid hb2
    clear hown hgr hb2
    go_wp2_with fail
    refine Calls.mono cs ?_
    rintro e w3 ⟨rfl, h3, -⟩
    have HS := Lib.hid (And.intro (SR.owns h3.1) (HB.out.trans h3.2))
    clear h3 cs
    go_wp2_with fail
    go_ret
    exact ⟨_, rfl, HS.out.1, HS.out.2⟩
/-- the place of the eldest so far -/
def EldR (L : List HI) (j : Nat) (B : Int) : Prop :=
  (B = -1 ∧ j = 0) ∨ ∃ (k : Nat) (y : HI), B = k ∧ k < j ∧ L[k]? = some y ∧ ∀ i, i < j → ∀ z, L[i]? = some z → y.v < z.v ∨ (y.v = z.v ∧ k ≤ i)
theorem EldR.next {L : List HI} {j : Nat} {B : Int} {x : HI} (h : EldR L j B) (hx : L[j]? = some x) (V : Int) (hV : ∀ (k : Nat) y, B = k → L[k]? = some y → y.v = V) : EldR L (j + 1) (if B < 0 ∨ x.v < V then (j : Int) else B) := by
  rcases h with ⟨rfl, rfl⟩ | ⟨k, y, rfl, hk, hy, hall⟩
  · rw [if_pos (.inl (by decide))]
    refine .inr ⟨0, x, rfl, by omega, hx, fun i hi z hz => ?_⟩
    obtain rfl : i = 0 := by omega
    rw [hx] at hz
    cases hz
    exact .inr ⟨rfl, Nat.le_refl _⟩
  · have hyV := hV k y rfl hy
    by_cases hlt : x.v < V
    · rw [if_pos (.inr hlt)]
      refine .inr ⟨j, x, rfl, by omega, hx, fun i hi z hz => ?_⟩
      rcases Nat.lt_or_ge i j with q | q
      · rcases hall i q z hz with r | ⟨r, -⟩
        · exact .inl (by omega)
        · exact .inl (by omega)
      · obtain rfl : i = j := by omega
        rw [hx] at hz
        cases hz
        exact .inr ⟨rfl, Nat.le_refl _⟩
    · rw [if_neg (by rintro (q | q); omega; exact hlt q)]
      refine .inr ⟨k, y, rfl, by omega, hy, fun i hi z hz => ?_⟩
      rcases Nat.lt_or_ge i j with q | q
      · exact hall i q z hz
      · obtain rfl : i = j := by omega
        rw [hx] at hz
        cases hz
        rcases Int.lt_or_eq_of_le (show y.v ≤ x.v by omega) with r | r
        · exact .inl r
        · exact .inr ⟨r, by omega⟩
theorem EldR.last {L : List HI} {B : Int} (h : EldR L L.length B) (hs : Srt L) : (B = -1 ∧ L = []) ∨ ∃ k : Nat, B = k ∧ k < L.length ∧ IsEld L k := by
  rcases h with ⟨rfl, h⟩ | ⟨k, y, rfl, hk, hy, hall⟩
  · exact .inl ⟨rfl, List.eq_nil_of_length_eq_zero h⟩
  · refine .inr ⟨k, rfl, hk, y, hy, fun z hz => ?_⟩
    obtain ⟨i, hi, e⟩ := List.getElem_of_mem hz
    have hz' : L[i]? = some z := by rw [List.getElem?_eq_getElem hi, e]
    unfold leV
    rcases hall i hi z hz' with r | ⟨r, q⟩
    · exact .inl r
    · refine .inr ⟨r, ?_⟩
      rcases Nat.lt_or_eq_of_le q with q | rfl
      · have := List.pairwise_iff_getElem.1 hs.pw k i hk hi q
        rw [e] at this
        obtain ⟨_, e2⟩ := List.getElem?_eq_some_iff.1 hy
        rw [e2] at this
        omega
      · rw [hy] at hz'
        cases hz'
        omega
set_option maxHeartbeats 1600000 in
set_option maxRecDepth 100000 in
/-- extent.Eldest -/
theorem eldest (L : List HI) (w : World) (v : Value) (hv : SR w v 3 L.length (hCells L)) :
    Calls Try.prog 66 #[v] w fun e w' => ∃ B, e = .returned (.int .i64 B) ∧ EldR L L.length B ∧ Below w.heap.size w w' := by
  obtain ⟨a, cap, rfl, hlc, hcm⟩ := hv.form
  unfold maxLen at hcm
  have HV := Lib.hid hv
  clear hv
  go_enter Try.func66, Try.ntmps66
  go_wp2_with fail
  go_loopw [3, 8] (fun bv i wr => ∃ (j : Nat) (B : Int), j ≤ L.length ∧ i = .int .i64 j ∧ bv = .int .i64 B ∧ Hid (EldR L j B ∧ Below w.heap.size w wr)) (fun _ i _ => L.length - (intOf i).toNat)
  case atStart => exact ⟨0, -1, Nat.zero_le _, rfl, rfl, Lib.hid ⟨.inl ⟨rfl, rfl⟩, Below.refl _ _⟩⟩
  case round =>
    obtain ⟨j, B, hj, rfl, rfl, HE⟩ := hrel
    by_cases hlt : j < L.length
    · obtain ⟨x, hx⟩ : ∃ x, L[j]? = some x := ⟨_, List.getElem?_eq_getElem hlt⟩
      obtain ⟨b, off, rfl, -, c0, c1, c2⟩ := sr_held (HV.out.below HE.out.2) j x hx
      have hb1 := (Below.refl wr.heap.size wr).alloc (Nat.le_refl _) (.cells #[.int .i64 x.b, .int .u64 x.v, .string x.d] 125)
      have hy := heap_alloc_self wr (.cells #[.int .i64 x.b, .int .u64 x.v, .string x.d] 125)
      have hb2 := HE.out.2.trans (hb1.mono HE.out.2.size)
      have hs2 := HV.out.below hb2
      have HB := Lib.hid hb2
      go_upto_region 5 with fail
      generalize wr.alloc (.cells #[.int .i64 x.b, .int .u64 x.v, .string x.d] 125) = w2 at *
      obtain ⟨d0, d1, d2⟩ := held_at hy
      obtain ⟨V, hV⟩ : ∃ V : Int, ∀ (k : Nat) y, B = k → L[k]? = some y → y.v = V := by
        rcases HE.out.1 with ⟨rfl, -⟩ | ⟨k, y, rfl, -, hy, -⟩
        · exact ⟨0, fun k y e => by omega⟩
        · exact ⟨y.v, fun k' y' e hy' => by
            have : k' = k := by omega
            subst this
            rw [hy] at hy'
            cases hy'
            rfl⟩
      have HN := Lib.hid (HE.out.1.next hx V hV)
      have HH := Lib.hid hV
      have HX := Lib.hid hx
      clear c0 c1 c2 hy hb1 hb2 hV hx
      go_cut [26] (fun s wx => s = .bool (decide (B < 0 ∨ x.v < V)) ∧ ∃ m : Nat, wx = w2.drewN m)
      case first =>
        rcases HE.out.1 with ⟨rfl, -⟩ | ⟨k, y, rfl, hk, hy, -⟩
        · go_quiet (fail)
          go_wp2_with fail
          go_meet
          exact ⟨rfl, _, rfl⟩
        · obtain ⟨b', off', he, -, k0, k1, k2⟩ := sr_held hs2 k y hy
          cases he
          rw [HH.out k y rfl hy] at k1
          have hk0 : decide ((k : Int) < 0) = false := decide_eq_false (by omega)
          have hk1 : ¬ (k : Int) < 0 := by omega
          have hk2 : (k : Int) < L.length := by omega
          by_cases hvv : x.v < V
          · have hv1 : decide (x.v < V) = true := decide_eq_true hvv
            have hv2 : decide ((k : Int) < 0 ∨ x.v < V) = true := decide_eq_true (.inr hvv)
            have HV2 := Lib.hid hv2
            clear hv2 hy
            go_quiet (fail)
            go_wp2_with fail
            go_meet
            exact ⟨by rw [HV2.out], _, rfl⟩
          · have hv1 : decide (x.v < V) = false := decide_eq_false hvv
            have hv2 : decide ((k : Int) < 0 ∨ x.v < V) = false := decide_eq_false (by rintro (q | q); exact hk1 q; exact hvv q)
            have HV2 := Lib.hid hv2
            clear hv2 hy
            go_quiet (fail)
            go_wp2_with fail
            go_meet
            exact ⟨by rw [HV2.out], _, rfl⟩
      case rest =>
        obtain ⟨rfl, m, rfl⟩ := hcut
        have HB2 := Lib.hid (below_drewN' HB.out m)
        clear d0 d1 d2 hs2
        by_cases hp : B < 0 ∨ x.v < V
        · rw [decide_eq_true hp]
          have HN2 := Lib.hid (show EldR L (j + 1) j by have h := HN.out; rw [if_pos hp] at h; exact h)
          clear hp
          go_wp2_with fail
          go_roundw
          case rel => exact ⟨j + 1, j, by omega, by go_num, rfl, Lib.hid ⟨HN2.out, HB2.out⟩⟩
          case measure => simp [intOf]; omega
        · rw [decide_eq_false hp]
          have HN2 := Lib.hid (show EldR L (j + 1) B by have h := HN.out; rw [if_neg hp] at h; exact h)
          clear hp
          go_wp2_with fail
          go_roundw
          case rel => exact ⟨j + 1, B, by omega, by go_num, rfl, Lib.hid ⟨HN2.out, HB2.out⟩⟩
          case measure => simp [intOf]; omega
    · obtain rfl : j = L.length := by omega
      go_wp2_with fail
      go_ret
      exact ⟨B, rfl, HE.out.1, HE.out.2⟩
end Go.Proofs.Ytadejhlljdcocaa
/-
  ExtentsOf's walk, of its own.
-/

namespace Go.Proofs.Ytadejhlljdcocaa
open Go.RowKit
set_option linter.unusedVariables false
set_option linter.unusedSimpArgs false

theorem drewN_more (w : World) (n m : Nat) : (w.drewN n).drewN m = w.drewN (n + m) := by unfold World.drewN; simp [Nat.add_assoc]
end Go.Proofs.Ytadejhlljdcocaa
/-
  extent.Before.
-/


namespace Go.Proofs.Ytadejhlljdcocaa
open Go.RowKit
set_option linter.unusedVariables false
set_option linter.unusedSimpArgs false

/-- those that end below a version -/
def befL (V : Int) (l : List EX) : List EX := l.filter fun e => decide (e.hi ≤ V)
theorem bef_next {V : Int} {l : List EX} {j : Nat} {e : EX} (h : l[j]? = some e) : befL V (l.take (j + 1)) = if e.hi ≤ V then befL V (l.take j) ++ [e] else befL V (l.take j) := by
  unfold befL
  rw [List.take_add_one, h, List.filter_append]
  by_cases hp : e.hi ≤ V
  · simp [hp]
  · simp [hp]
theorem ext_litE (x : EX) (w : World) : SR (w.alloc (.cells #[.int .i64 x.f, .int .i64 x.n, .int .u64 x.lo, .int .u64 x.hi] 130)) (.slice (some ⟨w.heap.size, 0, none⟩) 1 1) 4 1 (eCells [x]) := SR.lit w 130 #[.int .i64 x.f, .int .i64 x.n, .int .u64 x.lo, .int .u64 x.hi] 4 1 (by decide) rfl
theorem ext_at {w : World} {b : Nat} {x : EX} {t : TypeId} (h : w.heap[b]? = some (.cells #[.int .i64 x.f, .int .i64 x.n, .int .u64 x.lo, .int .u64 x.hi] t)) :
    w.cell? ⟨b, 0, none⟩ = some (.int .i64 x.f) ∧ w.cell? ⟨b, 1, none⟩ = some (.int .i64 x.n) ∧ w.cell? ⟨b, 2, none⟩ = some (.int .u64 x.lo) ∧ w.cell? ⟨b, 3, none⟩ = some (.int .u64 x.hi) := by
  simp [World.cell?, h]
set_option maxHeartbeats 3200000 in
set_option maxRecDepth 100000 in
theorem bef_clos (V : Int) (q : Nat) (acc : List EX) (x : EX) (hl : acc.length ≤ 1000) (N : Nat) (w : World) (v : Value) (hN : N ≤ w.heap.size) (hq : w.heap[q]? = some (.cells #[.int .u64 V] 68)) (hv : w.ownsRow N 130 4 v acc.length (eCells acc)) :
    Calls Try.prog 125 #[v, .agg #[.int .i64 x.f, .int .i64 x.n, .int .u64 x.lo, .int .u64 x.hi], .pointer (some ⟨q, 0, none⟩)] w fun e w' => ∃ v', e = .returned v' ∧ w'.ownsRow N 130 4 v' (if x.hi ≤ V then acc ++ [x] else acc).length (eCells (if x.hi ≤ V then acc ++ [x] else acc)) ∧ Below N w w' := by
  obtain ⟨i0, hi, hz0, hz1, hz2⟩ := info_parts info_ext
  obtain ⟨a, cap, rfl, hlc, hcm⟩ := (SR.owns hv).form
  unfold maxLen at hcm
  have hb0 := (Below.refl w.heap.size w).alloc (Nat.le_refl _) (.cells #[.int .i64 x.f, .int .i64 x.n, .int .u64 x.lo, .int .u64 x.hi] 130)
  have hy := heap_alloc_self w (.cells #[.int .i64 x.f, .int .i64 x.n, .int .u64 x.lo, .int .u64 x.hi] 130)
  have hq1 := below_at hb0 (lt_heap hq) hq
  have HV := Lib.hid (owns_below hv hb0)
  have HB := Lib.hid (hb0.mono hN)
  have hs := Nat.le_trans hN hb0.size
  clear hv hq
  by_cases hp : x.hi ≤ V
  · rw [if_pos hp]
    have hp1 : decide (x.hi ≤ V) = true := decide_eq_true hp
    go_enter Try.func125, Try.ntmps125
    go_upto_region 1 with fail
    generalize w.alloc (.cells #[.int .i64 x.f, .int .i64 x.n, .int .u64 x.lo, .int .u64 x.hi] 130) = w1 at *
    obtain ⟨d0, d1, d2, d3⟩ := ext_at hy
    have hqc : w1.cell? ⟨q, 0, none⟩ = some (.int .u64 V) := by simp [World.cell?, hq1]
    clear hy hq1 hb0
    go_wp2_with (at_builtin; refine wp_app Try.underlying126 hi hz0 hz1 hz2 rfl (by decide) rfl (.tmp 10) (.tmp 12) rfl N _ acc.length _ rfl (HV.out.alloc _) _ 1 (eCells [x]) rfl (ext_litE x _) ?c1 ?c2 ?c3 ?c4 ?_)
    case c1 => exact eCells_one _
    case c2 => unfold maxLen; omega
    case c3 => omega
    case c4 => first | omega | (simp; omega)
    intro v' w9 hown hgr
    have HO := Lib.hid (owns_ext (L := acc) hown)
    have HBF := Lib.hid (app_bel HB.out hs HV.out hgr)
    clear hown hgr
    go_wp2_with fail
    go_ret
    exact ⟨_, rfl, HO.out, HBF.out⟩
  · rw [if_neg hp]
    have hp1 : decide (x.hi ≤ V) = false := decide_eq_false hp
    go_enter Try.func125, Try.ntmps125
    go_upto_region 1 with fail
    generalize w.alloc (.cells #[.int .i64 x.f, .int .i64 x.n, .int .u64 x.lo, .int .u64 x.hi] 130) = w1 at *
    obtain ⟨d0, d1, d2, d3⟩ := ext_at hy
    have hqc : w1.cell? ⟨q, 0, none⟩ = some (.int .u64 V) := by simp [World.cell?, hq1]
    clear hy hq1 hb0
    go_wp2_with fail
    go_ret
    exact ⟨_, rfl, HV.out, HB.out⟩
set_option maxHeartbeats 1600000 in
set_option maxRecDepth 100000 in
/-- extent.Before -/
theorem before (V : Int) (l : List EX) (hl : l.length ≤ 1000) (w : World) (v : Value) (hv : SR w v 4 l.length (eCells l)) :
    Calls Try.prog 69 #[v, .int .u64 V] w fun e w' => ∃ v', e = .returned v' ∧ SR w' v' 4 (befL V l).length (eCells (befL V l)) ∧ Below w.heap.size w w' := by
  obtain ⟨a, cap, rfl, hlc, hcm⟩ := hv.form
  unfold maxLen at hcm
  have cf : ∀ (w : World) (q : Nat), w.heap[q]? = some (.cells #[.int .u64 V] 68) → SR w (.slice a l.length cap) 4 l.length (eCells l) → Calls Try.prog 124 #[.slice a l.length cap, .slice none 0 0, .func (.func 125) #[] #[.pointer (some ⟨q, 0, none⟩)]] w fun e w' => ∃ v', e = .returned v' ∧ SR w' v' 4 (befL V l).length (eCells (befL V l)) ∧ Below w.heap.size w w' := by
    intro w q hq hv
    have eg : ∀ args w, (callFunc 125 args).run Try.prog w = .ok (.enter 125 args) w := fun _ _ => by rfl
    have HV := Lib.hid hv
    have HQ := Lib.hid hq
    clear hv hq
    go_enter Try.func124, Try.ntmps124
    go_wp2_with fail
    go_loopw [1, 11] (fun o i wr => ∃ j : Nat, j ≤ l.length ∧ i = .int .i64 j ∧ Hid (wr.ownsRow w.heap.size 130 4 o (befL V (l.take j)).length (eCells (befL V (l.take j))) ∧ Below w.heap.size w wr)) (fun _ i _ => l.length - (intOf i).toNat)
    case atStart => exact ⟨0, Nat.zero_le _, rfl, Lib.hid ⟨World.ownsRow_nil _ _ _ _, Below.refl _ _⟩⟩
    case round =>
      obtain ⟨j, hj, rfl, HL⟩ := hrel
      by_cases hlt : j < l.length
      · obtain ⟨x, hx⟩ : ∃ x, l[j]? = some x := ⟨_, List.getElem?_eq_getElem hlt⟩
        obtain ⟨b, off, rfl, -, c0, c1, c2, c3⟩ := sr_ext (HV.out.below HL.out.2) j x hx
        have hb1 := (Below.refl wr.heap.size wr).alloc (Nat.le_refl _) (.cells #[.int .i64 x.f, .int .i64 x.n, .int .u64 x.lo, .int .u64 x.hi] 130)
        have hy := heap_alloc_self wr (.cells #[.int .i64 x.f, .int .i64 x.n, .int .u64 x.lo, .int .u64 x.hi] 130)
        have HX := Lib.hid (bef_next (V := V) hx)
        have hb2 := HL.out.2.trans (hb1.mono HL.out.2.size)
        have cc := bef_clos V q (befL V (l.take j)) x (by have := List.length_filter_le (fun e : EX => decide (e.hi ≤ V)) (l.take j); rw [List.length_take] at this; unfold befL; omega) w.heap.size _ _ hb2.size (below_at hb2 (lt_heap HQ.out) HQ.out) (owns_below HL.out.1 hb1)
        rw [← bef_next (V := V) hx] at cc
        have HB := Lib.hid hb2
        clear hx hb1 hb2
        go_upto_region 4 with fail
        generalize wr.alloc (.cells #[.int .i64 x.f, .int .i64 x.n, .int .u64 x.lo, .int .u64 x.hi] 130) = w2 at *
        obtain ⟨d0, d1, d2, d3⟩ := ext_at hy
        clear c0 c1 c2 c3 hy
        go_wp2_with fail
        refine Calls.mono cc ?_
        rintro e w3 ⟨v', rfl, ho3, hb3⟩
        have HO3 := Lib.hid ho3
        have HB3 := Lib.hid (HB.out.trans hb3)
        clear ho3 hb3 cc d0 d1 d2 d3
        go_wp2_with fail
        go_roundw
        case rel => exact ⟨j + 1, by omega, by go_num, Lib.hid ⟨HO3.out, HB3.out⟩⟩
        case measure => simp [intOf]; omega
      · obtain rfl : j = l.length := by omega
        have HQ2 := HL.out
        rw [List.take_length] at HQ2
        have HQ' := Lib.hid (And.intro (SR.owns HQ2.1) HQ2.2)
        clear HQ2
        go_wp2_with fail
        go_ret
        exact ⟨_, rfl, HQ'.out.1, HQ'.out.2⟩
  have hb0 := (Below.refl w.heap.size w).alloc (Nat.le_refl _) (.cells #[.int .u64 V] 68)
  have hq := heap_alloc_self w (.cells #[.int .u64 V] 68)
  have c2 := cf _ _ hq (hv.below hb0)
  have HB0 := Lib.hid hb0
  clear hv cf hb0 hq
  go_enter Try.func69, Try.ntmps69
  go_wp2_with fail
  refine Calls.mono c2 ?_
  rintro e w3 ⟨v3, rfl, hs3, hb3⟩
  have HR3 := Lib.hid hs3
  have HB3 := Lib.hid (HB0.out.trans (hb3.mono HB0.out.size))
  clear hs3 hb3 c2
  go_wp2_with fail
  go_ret
  exact ⟨_, rfl, HR3.out, HB3.out⟩
end Go.Proofs.Ytadejhlljdcocaa
