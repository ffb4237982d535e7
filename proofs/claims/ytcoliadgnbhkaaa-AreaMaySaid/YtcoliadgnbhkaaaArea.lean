/-
  area: May, Bytes, within, piece.
-/
import Derived.Test.YtcoliadgnbhkaaaDiskI
namespace Go.Proofs.Ytcoliadgnbhkaaa
open Go.RowKit
set_option linter.unusedVariables false
set_option linter.unusedSimpArgs false

/-- which areas may be -/
def mayA (f l : Int) : Bool := decide (0 ≤ f) && decide (f ≤ 4096) && decide (1 ≤ l) && decide (l ≤ 4096)
def areaV (f l : Int) : Value := .agg #[.int .i64 f, .int .i64 l]
theorem mayA_iff (f l : Int) : mayA f l = true ↔ 0 ≤ f ∧ f ≤ 4096 ∧ 1 ≤ l ∧ l ≤ 4096 := by
  simp [mayA, Bool.and_eq_true]
  omega
theorem amay (f l : Int) (w : World) : Calls Try.prog 34 #[areaV f l] w fun e w' => e = .returned (.bool (mayA f l)) ∧ Below w.heap.size w w' := by
  have hb : Below w.heap.size w (w.alloc (.cells #[.int .i64 f, .int .i64 l] 63)) := (Below.refl _ _).alloc (Nat.le_refl _) _
  have HB := Lib.hid hb
  clear hb
  unfold areaV
  by_cases h1 : 0 ≤ f
  · by_cases h2 : f ≤ 4096
    · by_cases h3 : 1 ≤ l
      · by_cases h4 : l ≤ 4096
        · go_enter Try.func34, Try.ntmps34
          go_wp2_with fail
          go_ret
          exact ⟨ret_bool (by first | (simp [mayA, h1, h2, h3, h4]; done) | (simp [mayA, h1, h2, h3, h4]; omega)), HB.out⟩
        · go_enter Try.func34, Try.ntmps34
          go_wp2_with fail
          go_ret
          exact ⟨ret_bool (by first | (simp [mayA, h1, h2, h3, h4]; done) | (simp [mayA, h1, h2, h3, h4]; omega)), HB.out⟩
      · go_enter Try.func34, Try.ntmps34
        go_wp2_with fail
        go_ret
        exact ⟨ret_bool (by first | (simp [mayA, h1, h2, h3]; done) | (simp [mayA, h1, h2, h3]; omega)), HB.out⟩
    · go_enter Try.func34, Try.ntmps34
      go_wp2_with fail
      go_ret
      exact ⟨ret_bool (by first | (simp [mayA, h1, h2]; done) | (simp [mayA, h1, h2]; omega)), HB.out⟩
  · go_enter Try.func34, Try.ntmps34
    go_wp2_with fail
    go_ret
    exact ⟨ret_bool (by first | (simp [mayA, h1]; done) | (simp [mayA, h1]; omega)), HB.out⟩
/-- how many bytes an area has -/
def bytesA (f l : Int) : Int := if mayA f l = true then 64 * l else 0
theorem two_cells {w w' : World} {x y : Value} {t : TypeId} (hb : Below (w.alloc (.cells #[x, y] t)).heap.size (w.alloc (.cells #[x, y] t)) w') : w'.cell? ⟨w.heap.size, 0, none⟩ = some x ∧ w'.cell? ⟨w.heap.size, 1, none⟩ = some y := by
  have h : w'.heap[w.heap.size]? = some (.cells #[x, y] t) := (hb.block w.heap.size (by simp)).trans (heap_alloc_self w _)
  exact ⟨by simp [World.cell?, h], by simp [World.cell?, h]⟩
theorem alloc_below {w w' : World} {o : Obj} (hb : Below (w.alloc o).heap.size (w.alloc o) w') : Below w.heap.size w w' := ((Below.refl _ _).alloc (Nat.le_refl _) o).trans (hb.mono (by simp))
theorem abytes (f l : Int) (w : World) : Calls Try.prog 35 #[areaV f l] w fun e w' => e = .returned (.int .i64 (bytesA f l)) ∧ Below w.heap.size w w' := by
  have c := fun w => amay f l w
  obtain ⟨b, hb⟩ : ∃ b, mayA f l = b := ⟨_, rfl⟩
  have hv : bytesA f l = if b = true then 64 * l else 0 := by unfold bytesA; rw [hb]
  rw [hv]
  have hiff := mayA_iff f l
  rw [hb] at hiff
  simp only [hb] at c
  unfold areaV at *
  clear hb hv
  cases b
  · clear hiff
    go_enter Try.func35, Try.ntmps35
    go_wp2_with fail
    refine Calls.mono (c _) ?_
    rintro e w2 ⟨rfl, hb⟩
    have HB := Lib.hid (alloc_below hb)
    clear hb
    go_wp2_with fail
    go_ret
    exact ⟨rfl, HB.out⟩
  · have hi := hiff.1 rfl
    have h3 := hi.2.2.1
    have h4 := hi.2.2.2
    clear hiff hi
    go_enter Try.func35, Try.ntmps35
    go_wp2_with fail
    refine Calls.mono (c _) ?_
    rintro e w2 ⟨rfl, hb⟩
    have HB := Lib.hid (alloc_below hb)
    obtain ⟨c0, c1⟩ := two_cells hb
    clear hb
    go_wp2_with fail
    go_ret
    exact ⟨ret_int (by first | omega | (simp; omega) | (rw [if_pos rfl]; omega)), HB.out⟩
/-- whether so many bytes from one on are in the area -/
def withinA (f l at' n : Int) : Bool := mayA f l && decide (0 ≤ at') && decide (0 ≤ n) && decide (at' ≤ bytesA f l) && decide (n ≤ bytesA f l - at')
set_option maxHeartbeats 800000 in
theorem awithin (f l at' n : Int) (w : World) (hat : -9223372036854775808 ≤ at' ∧ at' ≤ 9223372036854775807) : Calls Try.prog 54 #[areaV f l, .int .i64 at', .int .i64 n] w fun e w' => e = .returned (.bool (withinA f l at' n)) ∧ Below w.heap.size w w' := by
  have c := fun w => amay f l w
  have c2 := fun w => abytes f l w
  obtain ⟨b, hb⟩ : ∃ b, mayA f l = b := ⟨_, rfl⟩
  have hby : bytesA f l = if b = true then 64 * l else 0 := by unfold bytesA; rw [hb]
  have hiff := mayA_iff f l
  have hW : withinA f l at' n = (b && decide (0 ≤ at') && decide (0 ≤ n) && decide (at' ≤ bytesA f l) && decide (n ≤ bytesA f l - at')) := by unfold withinA; rw [hb]
  rw [hb] at hiff
  simp only [hb] at c
  obtain ⟨B, hB⟩ : ∃ B, bytesA f l = B := ⟨_, rfl⟩
  simp only [hB] at c2
  rw [hB] at hW hby
  have HW := Lib.hid hW
  unfold areaV at *
  cases b
  · clear hiff hby hW hB hb
    go_enter Try.func54, Try.ntmps54
    go_wp2_with fail
    refine Calls.mono (c _) ?_
    rintro e w2 ⟨rfl, hb⟩
    have HB := Lib.hid (alloc_below hb)
    clear hb
    go_wp2_with fail
    go_ret
    exact ⟨ret_bool (by rw [HW.out]; rfl), HB.out⟩
  · have hi := hiff.1 rfl
    have hBl : 0 ≤ B ∧ B ≤ 262144 := by
      rw [hby, if_pos rfl]
      omega
    have hB0 := hBl.1
    have hB1 := hBl.2
    clear hiff hby hW hB hb hi hBl
    by_cases h1 : 0 ≤ at'
    · by_cases h2 : 0 ≤ n
      · by_cases h3 : at' ≤ B
        · go_enter Try.func54, Try.ntmps54
          go_wp2_with fail
          refine Calls.mono (c _) ?_
          rintro e w2 ⟨rfl, hb⟩
          have HB := Lib.hid (alloc_below hb)
          have HBx := Lib.hid hb
          obtain ⟨c0, c1⟩ := two_cells hb
          clear hb
          go_wp2_with fail
          refine Calls.mono (c2 _) ?_
          rintro e w3 ⟨rfl, hb⟩
          have HB3 := Lib.hid (below_trans HB.out hb HB.out.size)
          have HBy := Lib.hid (below_trans HBx.out hb HBx.out.size)
          clear c0 c1
          obtain ⟨c0, c1⟩ := two_cells HBy.out
          clear hb
          go_wp2_with fail
          refine Calls.mono (c2 _) ?_
          rintro e w4 ⟨rfl, hb⟩
          have HB4 := Lib.hid (below_trans HB3.out hb HB3.out.size)
          clear hb
          go_wp2_with fail
          go_ret
          exact ⟨ret_bool (by rw [HW.out]; first | (simp [h1, h2, h3]; done) | (simp [h1, h2, h3]; omega)), HB4.out⟩
        · go_enter Try.func54, Try.ntmps54
          go_wp2_with fail
          refine Calls.mono (c _) ?_
          rintro e w2 ⟨rfl, hb⟩
          have HB := Lib.hid (alloc_below hb)
          obtain ⟨c0, c1⟩ := two_cells hb
          clear hb
          go_wp2_with fail
          refine Calls.mono (c2 _) ?_
          rintro e w3 ⟨rfl, hb⟩
          have HB3 := Lib.hid (below_trans HB.out hb HB.out.size)
          clear hb
          go_wp2_with fail
          go_ret
          exact ⟨ret_bool (by rw [HW.out]; first | (simp [h1, h2, h3]; done) | (simp [h1, h2, h3]; omega)), HB3.out⟩
      · go_enter Try.func54, Try.ntmps54
        go_wp2_with fail
        refine Calls.mono (c _) ?_
        rintro e w2 ⟨rfl, hb⟩
        have HB := Lib.hid (alloc_below hb)
        clear hb
        go_wp2_with fail
        go_ret
        exact ⟨ret_bool (by rw [HW.out]; first | (simp [h1, h2]; done) | (simp [h1, h2]; omega)), HB.out⟩
    · go_enter Try.func54, Try.ntmps54
      go_wp2_with fail
      refine Calls.mono (c _) ?_
      rintro e w2 ⟨rfl, hb⟩
      have HB := Lib.hid (alloc_below hb)
      clear hb
      go_wp2_with fail
      go_ret
      exact ⟨ret_bool (by rw [HW.out]; first | (simp [h1]; done) | (simp [h1]; omega)), HB.out⟩
theorem apiece (f l : Int) (at' n : Nat) (w : World) (hf : 0 ≤ f) (hf2 : f ≤ 4096) (ha : at' ≤ 262144) (hn : n ≤ 262144) : Calls Try.prog 55 #[areaV f l, .int .i64 at', .int .i64 n] w fun e w' => e = .returned (.tuple #[.int .i64 (f + at' / 64), .int .i64 (at' % 64 : Nat), .int .i64 (min n (64 - at' % 64) : Nat)]) ∧ Below w.heap.size w w' := by
  have hb : Below w.heap.size w (w.alloc (.cells #[.int .i64 f, .int .i64 l] 63)) := (Below.refl _ _).alloc (Nat.le_refl _) _
  have HB := Lib.hid hb
  clear hb
  unfold areaV
  have h1 : (at' : Int) % 64 < 64 := by omega
  have h2 : 0 ≤ (at' : Int) % 64 := by omega
  have h3 : (at' : Int) / 64 ≤ 4096 := by omega
  have h4 : 0 ≤ (at' : Int) / 64 := by omega
  have e1 := Lib.hid (show ((at' % 64 : Nat) : Int) = (at' : Int) % 64 by omega)
  have e2 := Lib.hid (show ((min n (64 - at' % 64) : Nat) : Int) = min (n : Int) (64 - (at' : Int) % 64) by omega)
  go_enter Try.func55, Try.ntmps55
  go_wp2_with fail
  go_ret3
  refine ⟨?_, HB.out⟩
  rw [e1.out, e2.out]
  rfl
end Go.Proofs.Ytcoliadgnbhkaaa
