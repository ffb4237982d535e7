/-
  items: find: where a block's item is.
-/
import Derived.Test.YtnjklhmnkjejfaaIts
namespace Go.Proofs.Ytnjklhmnkjejfaa
open Go.RowKit
set_option linter.unusedVariables false
set_option linter.unusedSimpArgs false

def cmpI (x y : Int) : Int := if x < y then -1 else if y < x then 1 else 0
theorem nan_int (x : Int) (w : World) : Calls Try.prog 76 #[.int .i64 x] w fun e w' => e = .returned (.bool false) ∧ w = w' := by
  go_enter Try.func76, Try.ntmps76
  go_wp2_with fail
  go_ret
  exact ⟨by simp, rfl⟩
theorem compare_int (x y : Int) (w : World) : Calls Try.prog 68 #[.int .i64 x, .int .i64 y] w fun e w' => e = .returned (.int .i64 (cmpI x y)) ∧ w = w' := by
  unfold cmpI
  have c1 := nan_int x
  have c2 := nan_int y
  by_cases h1 : x < y
  · have h2 : ¬ y < x := by omega
    rw [if_pos h1]
    go_enter Try.func68, Try.ntmps68
    go_wp2_with fail
    refine Calls.mono (c1 _) ?_
    rintro e w1 ⟨rfl, rfl⟩
    go_wp2_with fail
    refine Calls.mono (c2 _) ?_
    rintro e w1 ⟨rfl, rfl⟩
    go_wp2_with fail
    go_ret
    exact ⟨rfl, rfl⟩
  · rw [if_neg h1]
    by_cases h2 : y < x
    · rw [if_pos h2]
      go_enter Try.func68, Try.ntmps68
      go_wp2_with fail
      refine Calls.mono (c1 _) ?_
      rintro e w1 ⟨rfl, rfl⟩
      go_wp2_with fail
      refine Calls.mono (c2 _) ?_
      rintro e w1 ⟨rfl, rfl⟩
      go_wp2_with fail
      go_ret
      exact ⟨rfl, rfl⟩
    · rw [if_neg h2]
      go_enter Try.func68, Try.ntmps68
      go_wp2_with fail
      refine Calls.mono (c1 _) ?_
      rintro e w1 ⟨rfl, rfl⟩
      go_wp2_with fail
      refine Calls.mono (c2 _) ?_
      rintro e w1 ⟨rfl, rfl⟩
      go_wp2_with fail
      go_ret
      exact ⟨rfl, rfl⟩
theorem find_clos (h : HI) (b : Int) (w : World) : Calls Try.prog 67 #[.agg #[.int .i64 h.b, .int .u64 h.v, .string h.d], .int .i64 b] w fun e w' => e = .returned (.int .i64 (cmpI h.b b)) ∧ Below w.heap.size w w' := by
  go_enter Try.func67, Try.ntmps67
  go_wp2_with fail
  refine Calls.mono (compare_int h.b b _) ?_
  rintro e w1 ⟨rfl, rfl⟩
  go_wp2_with fail
  go_ret
  exact ⟨rfl, by go_grown⟩
theorem cmpI_lt {x y : Int} : cmpI x y < 0 ↔ x < y := by unfold cmpI; split <;> (try split) <;> omega
theorem cmpI_eq {x y : Int} : cmpI x y = 0 ↔ x = y := by unfold cmpI; split <;> (try split) <;> omega
set_option maxHeartbeats 1600000 in
set_option maxRecDepth 100000 in
/-- slices.BinarySearchFunc with find's own comparison, of a list of which the first n lie ahead of the block -/
theorem search_any (l : List HI) (b : Int) (n : Nat) (hn : n ≤ l.length) (hA : ∀ h ∈ l.take n, h.b < b) (hB : ∀ h ∈ l.drop n, b ≤ h.b) (w : World) (v : Value) (hv : SR w v 3 l.length (hCells l)) (hl : l.length ≤ 1000000) :
    Calls Try.prog 66 #[v, .int .i64 b, .func (.func 67) #[] #[]] w fun e w' =>
      e = .returned (.tuple #[.int .i64 n, .bool (decide (n < l.length) && decide (l[n]!.b = b))]) ∧ Below w.heap.size w w' := by
  obtain ⟨a, cap, rfl, hlc, hcm⟩ := hv.form
  unfold maxLen at hcm
  have eg : ∀ args w, (callFunc 67 args).run Try.prog w = .ok (.enter 67 args) w := fun _ _ => by rfl
  have HV := Lib.hid hv
  have hA' : ∀ t, t < n → l[t]!.b < b := fun t ht => by
    have ht2 : t < l.length := by omega
    rw [getElem!_pos l t ht2]
    exact hA _ (List.mem_take_iff_getElem.2 ⟨t, by omega, rfl⟩)
  have hB' : ∀ t, n ≤ t → t < l.length → b ≤ l[t]!.b := fun t h1 h2 => by
    rw [getElem!_pos l t h2]
    refine hB _ (List.mem_drop_iff_getElem.2 ⟨t - n, by omega, ?_⟩)
    congr 1
    omega
  have HA := Lib.hid hA'
  have HB := Lib.hid hB'
  obtain ⟨fin, hfin⟩ : ∃ fin, (decide (n < l.length) && decide (l[n]!.b = b)) = fin := ⟨_, rfl⟩
  rw [hfin]
  have FIN := Lib.hid hfin
  clear hv hA hB hA' hB' hfin
  go_enter Try.func66, Try.ntmps66
  go_wp2_with fail
  go_loopw [9, 10] (fun s9 s10 wr => ∃ lo hi : Nat, s9 = .int .i64 lo ∧ s10 = .int .i64 hi ∧ lo ≤ n ∧ n ≤ hi ∧ hi ≤ l.length ∧ Below w.heap.size w wr) (fun s9 s10 _ => (intOf s10).toNat - (intOf s9).toNat)
  case atStart => exact ⟨0, l.length, rfl, rfl, by omega, hn, Nat.le_refl _, Below.refl _ _⟩
  case round =>
    obtain ⟨lo, hi, rfl, rfl, hlo, hhi, hhl, hb⟩ := hrel
    have HBr := Lib.hid hb
    have hsr := HV.out.below hb
    clear hb
    by_cases hlt : lo < hi
    · obtain ⟨blk, off, rfl, hblk, -, hc⟩ := sr_block_held hsr (by omega)
      obtain ⟨x, hx⟩ : ∃ x, l[(lo + hi) / 2]? = some x := ⟨_, List.getElem?_eq_getElem (by omega)⟩
      obtain ⟨c0, c1, c2⟩ := hc _ _ hx
      have hxx : l[(lo + hi) / 2]! = x := by rw [getElem!_pos l _ (by omega)]; rw [List.getElem?_eq_getElem (by omega)] at hx; exact Option.some.inj hx
      have HX := Lib.hid hxx
      clear hc hx hxx hsr
      have hcl := fun w => find_clos x b w
      by_cases hyx : cmpI x.b b < 0
      · have hq : (lo + hi) / 2 < n := by
          rcases Nat.lt_or_ge ((lo + hi) / 2) n with h | h
          · exact h
          · have := HB.out _ h (by omega)
            rw [HX.out] at this
            rw [cmpI_lt] at hyx
            omega
        go_wp2_with fail
        refine Calls.mono (hcl _) ?_
        rintro e w' ⟨rfl, hb2⟩
        have HB2 := Lib.hid hb2
        clear hb2
        go_wp2_with fail
        go_roundw
        case rel => exact ⟨(lo + hi) / 2 + 1, hi, by go_num, rfl, by omega, hhi, hhl, HBr.out.trans (HB2.out.mono HBr.out.size)⟩
        case measure => simp [intOf]; omega
      · have hq : n ≤ (lo + hi) / 2 := by
          rcases Nat.lt_or_ge ((lo + hi) / 2) n with h | h
          · have := HA.out _ h
            rw [HX.out] at this
            rw [cmpI_lt] at hyx
            omega
          · exact h
        go_wp2_with fail
        refine Calls.mono (hcl _) ?_
        rintro e w' ⟨rfl, hb2⟩
        have HB2 := Lib.hid hb2
        clear hb2
        go_wp2_with fail
        go_roundw
        case rel => exact ⟨lo, (lo + hi) / 2, rfl, by go_num, by omega, by omega, by omega, HBr.out.trans (HB2.out.mono HBr.out.size)⟩
        case measure => simp [intOf]; omega
    · obtain rfl : lo = n := by omega
      obtain rfl : hi = lo := by omega
      by_cases hin : hi < l.length
      · obtain ⟨blk, off, rfl, hblk, -, hc⟩ := sr_block_held hsr (by omega)
        obtain ⟨x, hx⟩ : ∃ x, l[hi]? = some x := ⟨_, List.getElem?_eq_getElem (by omega)⟩
        obtain ⟨c0, c1, c2⟩ := hc _ _ hx
        have hxx : l[hi]! = x := by rw [getElem!_pos l _ (by omega)]; rw [List.getElem?_eq_getElem (by omega)] at hx; exact Option.some.inj hx
        have HX := Lib.hid hxx
        clear hc hx hxx hsr
        have hcl := fun w => find_clos x b w
        have hf : fin = (cmpI x.b b == 0) := by rw [← FIN.out, HX.out, Bool.eq_iff_iff]; simp [hin, cmpI_eq]
        subst hf
        go_wp2_with fail
        refine Calls.mono (hcl _) ?_
        rintro e w' ⟨rfl, hb2⟩
        have HB2 := Lib.hid hb2
        clear hb2
        go_wp2_with fail
        go_returns
        exact ⟨rfl, HBr.out.trans (HB2.out.mono HBr.out.size)⟩
      · have hf : fin = false := by rw [← FIN.out]; simp [hin]
        subst hf
        go_wp2_with fail
        go_returns
        exact ⟨rfl, HBr.out⟩
end Go.Proofs.Ytnjklhmnkjejfaa
