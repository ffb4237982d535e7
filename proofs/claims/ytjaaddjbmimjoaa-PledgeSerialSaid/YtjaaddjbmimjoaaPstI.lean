/-
  pledge: is something begun behind an end; may a value be there.
-/
import Derived.Test.YtjaaddjbmimjoaaPstH
import Derived.Maps.RangeWalk
namespace Go.Proofs.Ytjaaddjbmimjoaa
open Go.RowKit
open Go.Maps (Keyed)
set_option linter.unusedVariables false
set_option linter.unusedSimpArgs false

noncomputable abbrev plP : Value → Option (DataW Unit × List MemPlace) := plainElem Try.prog 3
def POverP (L : List Int) (til : Int) (w : World) (e : Ending) (w' : World) : Prop := e = .returned (.bool (L.any (fun x => decide (til < x)))) ∧ Below w.heap.size w w'
set_option maxHeartbeats 3200000 in
set_option maxRecDepth 100000 in
theorem pover (L : List Int) (u : Us) (Y b n : Nat) (D : DataW Unit) (w : World) (hY : w.cell? ⟨Y, 0, none⟩ = some (.map (some b))) (hYs : Y < w.heap.size) (hM : w.ownsMap Try.prog 3 plP b n D) (hD : ∀ x, Maps.has D (.int .i64 x) = decide (x ∈ L)) :
    Calls Try.prog 78 #[.agg #[.bool u.wr, .string u.val, .int .i64 u.from_, .int .i64 u.til], .pointer (some ⟨Y, 0, none⟩)] w (POverP L u.til w) := by
  unfold POverP
  have hb0 : Below w.heap.size w (w.alloc (.cells #[.bool u.wr, .string u.val, .int .i64 u.from_, .int .i64 u.til] 143)) := (Below.refl _ _).alloc (Nat.le_refl _) _
  have hal := heap_alloc_self w (.cells #[.bool u.wr, .string u.val, .int .i64 u.from_, .int .i64 u.til] 143)
  have hY1 := (hb0.cell (p := ⟨Y, 0, none⟩) hYs).trans hY
  have hM1 := hM.alloc (.cells #[.bool u.wr, .string u.val, .int .i64 u.from_, .int .i64 u.til] 143)
  obtain ⟨X, hX⟩ : ∃ X, w.heap.size = X := ⟨_, rfl⟩
  have HD := Lib.hid hD
  have hbX : b < X := by have := hM.lt; omega
  rw [hX] at hal hb0
  have H1 := Lib.hid (And.intro hM1 (And.intro hal (And.intro hb0 hX)))
  clear hD hM hM1 hY hYs hb0
  go_enter Try.func78, Try.ntmps78
  go_upto_region 1 with fail
  try rw [hX]
  generalize w.alloc (.cells #[.bool u.wr, .string u.val, .int .i64 u.from_, .int .i64 u.til] 143) = w1 at *
  clear hX
  go_wp2_with (at_range; refine wpList_range_own _ rfl (.tmp 5) 146 rfl 3 3 keyP Try.underlying146 plP b n D rfl H1.out.1 ?_; intro w2 hrg hgr hsz)
  go_frame
  obtain ⟨r, hr⟩ : ∃ r, w1.heap.size = r := ⟨_, rfl⟩
  have hn := H1.out.1.size_le
  have hbr : b < r := by have := H1.out.1.lt; omega
  have hXr : X < r := by have := lt_heap hal; omega
  have H2 := Lib.hid (show w2.ranges Try.prog 3 plP b r n D (Maps.has D) (Maps.size D) ∧ Below r w1 w2 ∧ (∀ x, Maps.has D (.int .i64 x) = true → Maps.has D (.int .i64 x) = false → ¬ u.til < x) from ⟨by rw [← hr]; exact hrg, ⟨hgr.os, hgr.tape, hgr.output, hgr.size, fun k hk => hgr.block k (by omega) (by simp)⟩, fun x h1 h2 => by rw [h1] at h2; cases h2⟩)
  have HR := Lib.hid hr
  rw [hr]
  clear hrg hgr hsz hr hY1 hal
  go_loopw [4] (fun v wr => ∃ (left : Lit → Bool) (cnt : Nat), Hid (wr.ranges Try.prog 3 plP b r n D left cnt ∧ Below r w1 wr ∧ ∀ x, Maps.has D (.int .i64 x) = true → left (.int .i64 x) = false → ¬ u.til < x)) (fun _ wr => wr.rangeLeft b r)
  case atStart => exact ⟨_, _, H2⟩
  case round =>
    obtain ⟨left, cnt, HRel⟩ := hrel
    clear H2
    go_wp2_with (at_next; refine wpList_next_ranges_ii _ rfl (.tmp 6) rfl 3 3 .i64 .i64 keyP Try.underlying3 Try.underlying3 b r n D left cnt rfl HRel.out.1 ?done ?more)
    case done =>
      intro h0 hleft
      have HF := Lib.hid (show L.any (fun x => decide (u.til < x)) = false from by
        rw [List.any_eq_false]
        intro x hx
        have := HRel.out.2.2 x (by rw [HD.out x]; simpa using hx) (hleft _)
        simpa using this)
      have HB := Lib.hid (H1.out.2.2.1.trans (HRel.out.2.1.mono (Nat.le_of_lt hXr)))
      clear h0 hleft
      go_wp2_with fail
      go_ret
      rw [HF.out]
      exact ⟨rfl, HB.out.mono (Nat.le_of_eq H1.out.2.2.2)⟩
    case more =>
      intro x c w3 cnt' hwx hwc hlk hat hrg' hlt hgr' hsz' hen
      have hb3 : Below r w1 w3 := HRel.out.2.1.grown hgr' (by rw [← HR.out]; exact HRel.out.2.1.size) (fun k hk => by injection hk with hk; omega)
      have hc3 := cell_atF (below_at hb3 hXr H1.out.2.1) 3 (v := .int .i64 u.til) rfl
      have hhas : Maps.has D (.int .i64 x) = true := Maps.has_true_of_atKey hat
      have H3 := Lib.hid (And.intro hrg' (And.intro hb3 hhas))
      have hm1 := HRel.out.1.left_eq
      have hm3 := hrg'.left_eq
      clear hwc hlk hat hrg' hgr' hsz' hb3 hhas
      by_cases hq : u.til < x
      · have hq' : (decide (u.til < x)) = true := decide_eq_true hq
        have HF := Lib.hid (show L.any (fun x => decide (u.til < x)) = true from List.any_eq_true.2 ⟨x, by
          have := H3.out.2.2
          rw [HD.out x] at this
          simpa using this, hq'⟩)
        have HB := Lib.hid (H1.out.2.2.1.trans (H3.out.2.1.mono (Nat.le_of_lt hXr)))
        go_wp2_with fail
        go_ret
        rw [HF.out]
        exact ⟨rfl, HB.out.mono (Nat.le_of_eq H1.out.2.2.2)⟩
      · have hq' : (decide (u.til < x)) = false := decide_eq_false hq
        go_wp2_with fail
        go_roundw
        case rel => exact ⟨_, cnt', Lib.hid ⟨H3.out.1, H3.out.2.1, fun y h1 h2 => by
          by_cases hy : y = x
          · subst hy; exact hq
          · have := HRel.out.2.2 y h1 (by simpa [Lit.sameKey, hy] using h2)
            omega⟩⟩
        case measure => omega
theorem pindex0 (v : ByteArray) (w : World) : Calls Try.prog 117 #[.slice none 0 0, .string v] w fun e w' => e = .returned (.int .i64 (-1)) ∧ w' = w := by
  go_enter Try.func117, Try.ntmps117
  go_wp2_with fail
  go_loopw [8] (fun v wr => v = .int .i64 0 ∧ wr = w) (fun _ _ => 0)
  case atStart => exact ⟨rfl, rfl⟩
  case round =>
    obtain ⟨rfl, rfl⟩ := hrel
    go_wp2_with fail
    go_ret
    exact ⟨rfl, rfl⟩
theorem pcontains0 (v : ByteArray) (w : World) : Calls Try.prog 102 #[.slice none 0 0, .string v] w fun e w' => e = .returned (.bool false) ∧ w' = w := by
  go_enter Try.func102, Try.ntmps102
  go_wp2_with fail
  refine Calls.mono (pindex0 v _) ?_
  rintro e w1 ⟨rfl, rfl⟩
  go_wp2_with fail
  go_ret
  exact ⟨rfl, rfl⟩
def PKeepsP (s v : ByteArray) (w : World) (e : Ending) (w' : World) : Prop := e = .returned (.bool (decide (v = s))) ∧ Below w.heap.size w w'
theorem pkeeps (s v : ByteArray) (w : World) : Calls Try.prog 79 #[.agg #[.string s, .slice none 0 0], .string v] w (PKeepsP s v w) := by
  unfold PKeepsP
  by_cases h : v = s
  · subst h
    rw [decide_eq_true rfl]
    go_enter Try.func79, Try.ntmps79
    go_wp2_with fail
    go_returns
    exact ⟨rfl, by go_grown⟩
  · rw [decide_eq_false h]
    have hb : (v.toList == s.toList) = false := beq_false_of_ne fun q => h (str_ext (by simpa [ByteArray.toList_eq] using q))
    go_enter Try.func79, Try.ntmps79
    go_wp2_with fail
    refine Calls.mono (pcontains0 v _) ?_
    rintro e w1 ⟨rfl, rfl⟩
    go_wp2_with fail
    go_returns
    exact ⟨rfl, by go_grown⟩
end Go.Proofs.Ytjaaddjbmimjoaa
