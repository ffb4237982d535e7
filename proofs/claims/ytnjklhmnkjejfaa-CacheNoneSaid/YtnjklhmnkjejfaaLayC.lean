/-
  tarnref09: Lay, where it is laid; Drop.
-/
import Derived.Test.YtnjklhmnkjejfaaLayB
namespace Go.Proofs.Ytnjklhmnkjejfaa
open Go.RowKit
set_option linter.unusedVariables false
set_option linter.unusedSimpArgs false

/-- what the loop of Lay keeps -/
def LRel (N : Nat) (w : World) (l : List HI) (k : Nat) (x : HI) (j : Nat) (o : Value) (wr : World) : Prop := wr.ownsRow N 45 3 o (outL l k x j).length (hCells (outL l k x j)) ∧ Below N w wr
theorem lrel_to {N : Nat} {w wr : World} {l : List HI} {k j : Nat} {x : HI} {o : Value} {L : List HI} (h : wr.ownsRow N 45 3 o L.length (hCells L)) (hb : Below N w wr) (e : outL l k x j = L) : LRel N w l k x j o wr := by
  unfold LRel
  rw [e]
  exact ⟨h, hb⟩
theorem lapp_below {N : Nat} {w wr w2 : World} {ob : Obj} {o : Value} {n : Nat} {xs : List Value} (hb : Below N w wr) (hN : N ≤ wr.heap.size) (ho : wr.ownsRow N 45 3 o n xs) (hg : (wr.alloc ob).grownBy w2 o.ownBlock) : Below N w w2 :=
  below_app (hb.alloc hN ob) hg (ho.alloc ob) (Nat.le_refl _) (by simp; omega)
theorem own_mono {w : World} {base base' n size : Nat} {e : TypeId} {v : Value} {xs : List Value} (h : w.ownsRow base e size v n xs) (hb : base' ≤ base) : w.ownsRow base' e size v n xs :=
  ⟨h.1, h.2.imp id fun ⟨g, cap, cur, a, b, c⟩ => ⟨g, cap, cur, a, Nat.le_trans hb b, c⟩⟩
set_option maxHeartbeats 3200000 in
set_option maxRecDepth 100000 in
theorem rlay_new (l : List HI) (x : HI) (w : World) (v : Value) (hs : Srt l) (hv : SR w v 3 l.length (hCells l)) (hx : Good x) (hm : MayT true x.v x.d) (hls : laysL l x = true) :
    Calls Try.prog 38 #[v, .int .i64 x.b, .agg (itemA x.v x.d)] w (RLay w v true l x) := by
  obtain ⟨i0, hi, hz0, hz1, hz2⟩ := info_parts info_held
  have n0 : ¬ x.b < 0 := by have := hx.1; omega
  have n1 : ¬ 64 ≤ x.b := by have := hx.2.1; omega
  have hib : inB x.b = true := by simp [inB, hx.1, hx.2.1]
  have hl64 := hs.len
  obtain ⟨hall, hkl, hA, hC⟩ := out_all hs hls
  obtain ⟨k, hk⟩ : ∃ k, k = atL l x.b := ⟨_, rfl⟩
  rw [← hk] at hall hkl hA hC
  have HR : Hid (∀ w' v', w'.ownsRow w.heap.size 45 3 v' (layL l x).length (hCells (layL l x)) → Below w.heap.size w w' → RLay w v true l x (.returned (.tuple #[v', .bool true])) w') := fun w' v' ho hb => by
    have e1 : putsL true l x = true := by simp [putsL, hib, hls]
    have e2 : putL true l x = layL l x := by simp [putL, hib]
    refine ⟨v', by rw [e1], by rw [e2]; exact SR.owns ho, .inr fun q e => (ho.lt q e).1, fun q e => .inr (ho.lt q e).2, hb⟩
  have HLAY := Lib.hid hall
  have HA := Lib.hid hA
  have HC := Lib.hid hC
  have hb0 := (Below.refl w.heap.size w).alloc (Nat.le_refl _) (.cells #[.int .u64 x.v, .string x.d] 24)
  have hz := heap_alloc_self w (.cells #[.int .u64 x.v, .string x.d] 24)
  have cm := hm.2
  have cg := fun w' hb => rget l x.b w' v (hv.below (w' := w') hb)
  have hlg := lays_get hls
  have key : ∀ (iss : Bool) (G : Int) (D : ByteArray), (iss = true → G < x.v) → (∀ w', Below w.heap.size w w' → Calls Try.prog 56 #[v, .int .i64 x.b] w' fun e w'' => e = .returned (.tuple #[.agg (itemA G D), .bool iss]) ∧ Below w'.heap.size w' w'') →
      Calls Try.prog 38 #[v, .int .i64 x.b, .agg (itemA x.v x.d)] w (RLay w v true l x) := by
    intro iss G D hG cg
    have HV := Lib.hid hv
    obtain ⟨a, cap, rfl, hlc, hcm⟩ := hv.form
    unfold maxLen at hcm
    clear hv hm hlg hs hls hx hk hall hA hC hib
    unfold itemA at *
    cases iss
    all_goals
      (try have hG2 : ¬ x.v ≤ G := by have := hG rfl; omega)
      clear hG
      go_enter Try.func38, Try.ntmps38
      go_wp2_with fail
      refine Calls.mono (cm _) ?_
      rintro e w1 ⟨rfl, hb1⟩
      have hb2 := hb0.trans (hb1.mono hb0.size)
      have yy := below_at hb1 (lt_heap hz) hz
      go_wp2_with fail
      refine Calls.mono (cg _ hb2) ?_
      rintro e w3 ⟨rfl, hb3⟩
      have y3 := below_at hb3 (lt_heap yy) yy
      have hb4 := hb2.trans (hb3.mono hb2.size)
      have hb5 := hb4.alloc hb4.size (.cells #[.int .u64 G, .string D] 24)
      have hq := heap_alloc_self w3 (.cells #[.int .u64 G, .string D] 24)
      have y4 := alloc_far (o := .cells #[.int .u64 G, .string D] 24) y3
      clear hb0 hb1 hb2 hb3 hb4 yy y3 hz cm cg
      go_upto_region 4 with fail
      generalize w3.alloc (.cells #[.int .u64 G, .string D] 24) = w5 at *
      have HB := Lib.hid hb5
      have d0 : w5.cell? ⟨w3.heap.size, 0, none⟩ = some (.int .u64 G) := by simp [World.cell?, hq]
      have d1 : w5.cell? ⟨w.heap.size, 0, none⟩ = some (.int .u64 x.v) := by simp [World.cell?, y4]
      have HY := Lib.hid y4
      clear hb5 hq y4
      go_wp2_with fail
      go_loopw [10, 11, 12] (fun o inn i wr => ∃ j : Nat, j ≤ l.length ∧ i = .int .i64 j ∧ inn = .bool (decide (k < j)) ∧ Hid (LRel w5.heap.size w5 l k x j o wr)) (fun _ _ i _ => l.length - (intOf i).toNat)
      case atStart => exact ⟨0, Nat.zero_le _, rfl, by simp, Lib.hid (lrel_to (L := []) (World.ownsRow_lit (base := w5.heap.size) w5 #[] 0 (Nat.le_refl _) (by decide) rfl) (by go_grown) (by simp [outL]))⟩
      case round =>
        obtain ⟨j, hj, rfl, rfl, HL⟩ := hrel
        have hwr := HL.out.2.size
        have hol := outL_len l k x j
        have HB6 := Lib.hid (HB.out.trans (HL.out.2.mono HB.out.size))
        have yb := below_at HL.out.2 (lt_heap HY.out) HY.out
        have e0 : wr.cell? ⟨w.heap.size, 0, none⟩ = some (.int .u64 x.v) := by simp [World.cell?, yb]
        have e1 : wr.cell? ⟨w.heap.size, 1, none⟩ = some (.string x.d) := by simp [World.cell?, yb]
        clear yb
        by_cases hlt : j < l.length
        · obtain ⟨h, hh⟩ : ∃ h, l[j]? = some h := ⟨_, List.getElem?_eq_getElem hlt⟩
          have HH := Lib.hid hh
          obtain ⟨g, off, hga, hgl, c0, c1, c2⟩ := sr_held (HV.out.below HB6.out) j h hh
          subst hga
          clear hh
          rcases Nat.lt_trichotomy j k with hjk | hjk | hjk
          · have hin : decide (k < j) = false := decide_eq_false (by omega)
            have hbx : h.b < x.b := HA.out h (by rw [List.mem_take_iff_getElem]; exact ⟨j, by omega, by have := HH.out; rw [List.getElem?_eq_getElem hlt] at this; exact Option.some.inj this⟩)
            have hb2 : ¬ x.b ≤ h.b := by omega
            have hb3 : ¬ h.b = x.b := by omega
            have hb4 : (h.b == x.b) = false := by simpa using hb3
            rw [hin]
            go_wp2_with (at_builtin; refine wp_app Try.underlying41 hi hz0 hz1 hz2 rfl (by decide) rfl (.tmp 71) (.tmp 76) rfl w5.heap.size _ _ _ rfl (HL.out.1.alloc _) _ 1 (hCells [h]) rfl (good_lit h _) ?c1 ?c2 ?c3 ?c4 ?_)
            case c1 => exact hCells_one _
            case c2 => unfold maxLen; omega
            case c3 => omega
            case c4 => first | omega | (simp; omega)
            intro v' w2 hown hgr
            have HOw2 := Lib.hid (owns_app hown)
            have HGw2 := Lib.hid hgr
            clear hown hgr
            go_wp2_with fail
            go_roundw
            case rel => exact ⟨j + 1, by omega, by go_num, by rw [decide_eq_false (by omega)], Lib.hid (lrel_to HOw2.out (lapp_below HL.out.2 hwr HL.out.1 HGw2.out) (outL_lt HH.out hjk))⟩
            case measure => simp [intOf]; omega
          · subst hjk
            have hin : decide (j < j) = false := decide_eq_false (by omega)
            have hbx : ¬ h.b < x.b := by
              have := HC.out h (by rw [List.mem_drop_iff_getElem]; exact ⟨0, by omega, by have := HH.out; rw [List.getElem?_eq_getElem hlt] at this; simpa using Option.some.inj this⟩)
              omega
            have hb2 : x.b ≤ h.b := by omega
            rw [hin]
            go_wp2_with (at_builtin; refine wp_app Try.underlying41 hi hz0 hz1 hz2 rfl (by decide) rfl (.tmp 58) (.tmp 62) rfl w5.heap.size _ _ _ rfl (HL.out.1.alloc _) _ 1 (hCells [x]) rfl (good_lit x _) ?c1 ?c2 ?c3 ?c4 ?_)
            case c1 => exact hCells_one _
            case c2 => unfold maxLen; omega
            case c3 => omega
            case c4 => first | omega | (simp; omega)
            intro v' w2 hown hgr
            have HOw2 := Lib.hid (owns_app hown)
            have HGw2 := Lib.hid hgr
            clear hown hgr
            have hb7 := lapp_below HL.out.2 hwr HL.out.1 HGw2.out
            have HB7 := Lib.hid hb7
            have hw2 := hb7.size
            have hol2 : (outL l j x j ++ [x]).length ≤ j + 2 := by simp; omega
            obtain ⟨g', off', hga, hgl', c0', c1', c2'⟩ := sr_held (HV.out.below (HB.out.trans (hb7.mono HB.out.size))) j h HH.out
            injection hga with hga
            injection hga with hg1 hg2
            subst hg1 hg2
            clear c0 c1 c2 hb7 e0 e1
            by_cases hbe : h.b = x.b
            · have hb4 : (h.b == x.b) = true := by simpa using hbe
              have hb5 : (h.b != x.b) = false := by simp [bne, hb4]
              go_wp2_with fail
              go_roundw
              case rel => exact ⟨j + 1, by omega, by go_num, by rw [decide_eq_true (by omega)], Lib.hid (lrel_to HOw2.out HB7.out (by rw [outL_eq HH.out]; simp [hb5]))⟩
              case measure => simp [intOf]; omega
            · have hb4 : (h.b == x.b) = false := by simpa using hbe
              have hb5 : (h.b != x.b) = true := by simp [bne, hb4]
              go_wp2_with (at_builtin; refine wp_app Try.underlying41 hi hz0 hz1 hz2 rfl (by decide) rfl (.tmp 71) (.tmp 76) rfl w5.heap.size _ _ _ rfl (HOw2.out.alloc _) _ 1 (hCells [h]) rfl (good_lit h _) ?c1 ?c2 ?c3 ?c4 ?_)
              case c1 => exact hCells_one _
              case c2 => unfold maxLen; omega
              case c3 => omega
              case c4 => first | omega | (simp; omega)
              intro v3 w9 hown hgr
              have HOw9 := Lib.hid (owns_app (L := outL l j x j ++ [x]) (by rw [List.length_append]; exact hown))
              have HGw9 := Lib.hid hgr
              clear hown hgr
              go_wp2_with fail
              go_roundw
              case rel => exact ⟨j + 1, by omega, by go_num, by rw [decide_eq_true (by omega)], Lib.hid (lrel_to HOw9.out (lapp_below HB7.out hw2 HOw2.out HGw9.out) (by rw [outL_eq HH.out]; simp [hb5]))⟩
              case measure => simp [intOf]; omega
          · have hin : decide (k < j) = true := decide_eq_true (by omega)
            rw [hin]
            by_cases hbe : h.b = x.b
            · have hb4 : (h.b == x.b) = true := by simpa using hbe
              have hb5 : (h.b != x.b) = false := by simp [bne, hb4]
              go_wp2_with fail
              go_roundw
              case rel => exact ⟨j + 1, by omega, by go_num, by rw [decide_eq_true (by omega)], Lib.hid (lrel_to HL.out.1 HL.out.2 (by rw [outL_gt HH.out hjk]; simp [hb5]))⟩
              case measure => simp [intOf]; omega
            · have hb4 : (h.b == x.b) = false := by simpa using hbe
              have hb5 : (h.b != x.b) = true := by simp [bne, hb4]
              go_wp2_with (at_builtin; refine wp_app Try.underlying41 hi hz0 hz1 hz2 rfl (by decide) rfl (.tmp 71) (.tmp 76) rfl w5.heap.size _ _ _ rfl (HL.out.1.alloc _) _ 1 (hCells [h]) rfl (good_lit h _) ?c1 ?c2 ?c3 ?c4 ?_)
              case c1 => exact hCells_one _
              case c2 => unfold maxLen; omega
              case c3 => omega
              case c4 => first | omega | (simp; omega)
              intro v' w2 hown hgr
              have HOw2 := Lib.hid (owns_app hown)
              have HGw2 := Lib.hid hgr
              clear hown hgr
              go_wp2_with fail
              go_roundw
              case rel => exact ⟨j + 1, by omega, by go_num, by rw [decide_eq_true (by omega)], Lib.hid (lrel_to HOw2.out (lapp_below HL.out.2 hwr HL.out.1 HGw2.out) (by rw [outL_gt HH.out hjk]; simp [hb5]))⟩
              case measure => simp [intOf]; omega
        · obtain rfl : j = l.length := by omega
          by_cases hkl2 : k < l.length
          · have hin : decide (k < l.length) = true := decide_eq_true hkl2
            have hfin : outL l k x l.length = layL l x := by rw [HLAY.out]; unfold outL; rw [if_neg (by omega), List.take_length]
            have HQ := Lib.hid (HR _ _ (by have := (own_mono HL.out.1 HB.out.size); rw [hfin] at this; exact this) HB6.out)
            rw [hin]
            go_wp2_with fail
            go_returns
            exact HQ.out
          · have hke : k = l.length := by omega
            subst hke
            have hin : decide (l.length < l.length) = false := decide_eq_false hkl2
            have hfin : outL l l.length x l.length ++ [x] = layL l x := by rw [HLAY.out]; unfold outL; rw [if_pos (Nat.le_refl _)]; simp
            rw [hin]
            go_wp2_with (at_builtin; refine wp_app Try.underlying41 hi hz0 hz1 hz2 rfl (by decide) rfl (.tmp 80) (.tmp 84) rfl w5.heap.size _ _ _ rfl (HL.out.1.alloc _) _ 1 (hCells [x]) rfl (good_lit x _) ?c1 ?c2 ?c3 ?c4 ?_)
            case c1 => exact hCells_one _
            case c2 => unfold maxLen; omega
            case c3 => omega
            case c4 => first | omega | (simp; omega)
            intro v' w2 hown hgr
            have HOw2 := Lib.hid (owns_app hown)
            have HGw2 := Lib.hid hgr
            clear hown hgr
            have HB7 := Lib.hid (lapp_below HL.out.2 hwr HL.out.1 HGw2.out)
            have HQ := Lib.hid (HR _ _ (by have := (own_mono HOw2.out HB.out.size); rw [hfin] at this; exact this) (HB.out.trans (HB7.out.mono HB.out.size)))
            go_wp2_with fail
            go_returns
            exact HQ.out
  cases hO : getL l x.b with
  | none => exact key false 0 ⟨#[]⟩ (by simp) (by rw [hO] at cg; exact cg)
  | some y => exact key true y.v y.d (fun _ => hlg y hO) (by rw [hO] at cg; exact cg)
end Go.Proofs.Ytnjklhmnkjejfaa
