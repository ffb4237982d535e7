/-
  sched: which kind of act is drawn.
-/
import Derived.Test.YtfgmeeponipjeaaShd
namespace Go.Proofs.Ytfgmeeponipjeaa
open Go.RowKit
set_option linter.unusedVariables false
set_option linter.unusedSimpArgs false

def kdF (a : Int) : Int := if a < 12 then 0 else if a < 14 then 1 else if a < 18 then 2 else if a < 78 then 3 else if a < 82 then 4 else if a < 86 then 5 else if a < 87 then 6 else if a < 117 then 7 else if a < 157 then 8 else if a < 159 then 9 else if a < 165 then 10 else 11
theorem kdF_range (a : Int) : 0 ≤ kdF a ∧ kdF a ≤ 11 := by
  unfold kdF
  repeat' split
  all_goals omega
set_option maxHeartbeats 16000000 in
set_option maxRecDepth 100000 in
theorem skind (g : Nat) (s : Int) (w : World) (h : SB w g s) : Calls Try.prog 58 #[.pointer (some ⟨g, 0, none⟩)] w fun e w' => e = .returned (.tuple #[.int .i64 (kdF (bl s 166)), .bool true]) ∧ w' = w.setCell ⟨g, 0, none⟩ (.int .u64 (nx s)) := by
  have c := sbelow g s 166 w h (by decide) (by decide)
  obtain ⟨b1, b2⟩ := bl_range s (show (1 : Int) ≤ 166 by decide)
  obtain ⟨a, ha⟩ : ∃ a, bl s 166 = a := ⟨_, rfl⟩
  rw [ha] at c b1 b2 ⊢
  have x0 : ∀ w : World, (Instr.index 66 (.agg #[.int .i64 12, .int .i64 2, .int .i64 4, .int .i64 60, .int .i64 4, .int .i64 4, .int .i64 1, .int .i64 30, .int .i64 40, .int .i64 2, .int .i64 6, .int .i64 1]) (.int .i64 0)).run Try.prog w = .ok (.int .i64 12) w := fun _ => by kernel_rfl
  have x1 : ∀ w : World, (Instr.index 66 (.agg #[.int .i64 12, .int .i64 2, .int .i64 4, .int .i64 60, .int .i64 4, .int .i64 4, .int .i64 1, .int .i64 30, .int .i64 40, .int .i64 2, .int .i64 6, .int .i64 1]) (.int .i64 1)).run Try.prog w = .ok (.int .i64 2) w := fun _ => by kernel_rfl
  have x2 : ∀ w : World, (Instr.index 66 (.agg #[.int .i64 12, .int .i64 2, .int .i64 4, .int .i64 60, .int .i64 4, .int .i64 4, .int .i64 1, .int .i64 30, .int .i64 40, .int .i64 2, .int .i64 6, .int .i64 1]) (.int .i64 2)).run Try.prog w = .ok (.int .i64 4) w := fun _ => by kernel_rfl
  have x3 : ∀ w : World, (Instr.index 66 (.agg #[.int .i64 12, .int .i64 2, .int .i64 4, .int .i64 60, .int .i64 4, .int .i64 4, .int .i64 1, .int .i64 30, .int .i64 40, .int .i64 2, .int .i64 6, .int .i64 1]) (.int .i64 3)).run Try.prog w = .ok (.int .i64 60) w := fun _ => by kernel_rfl
  have x4 : ∀ w : World, (Instr.index 66 (.agg #[.int .i64 12, .int .i64 2, .int .i64 4, .int .i64 60, .int .i64 4, .int .i64 4, .int .i64 1, .int .i64 30, .int .i64 40, .int .i64 2, .int .i64 6, .int .i64 1]) (.int .i64 4)).run Try.prog w = .ok (.int .i64 4) w := fun _ => by kernel_rfl
  have x5 : ∀ w : World, (Instr.index 66 (.agg #[.int .i64 12, .int .i64 2, .int .i64 4, .int .i64 60, .int .i64 4, .int .i64 4, .int .i64 1, .int .i64 30, .int .i64 40, .int .i64 2, .int .i64 6, .int .i64 1]) (.int .i64 5)).run Try.prog w = .ok (.int .i64 4) w := fun _ => by kernel_rfl
  have x6 : ∀ w : World, (Instr.index 66 (.agg #[.int .i64 12, .int .i64 2, .int .i64 4, .int .i64 60, .int .i64 4, .int .i64 4, .int .i64 1, .int .i64 30, .int .i64 40, .int .i64 2, .int .i64 6, .int .i64 1]) (.int .i64 6)).run Try.prog w = .ok (.int .i64 1) w := fun _ => by kernel_rfl
  have x7 : ∀ w : World, (Instr.index 66 (.agg #[.int .i64 12, .int .i64 2, .int .i64 4, .int .i64 60, .int .i64 4, .int .i64 4, .int .i64 1, .int .i64 30, .int .i64 40, .int .i64 2, .int .i64 6, .int .i64 1]) (.int .i64 7)).run Try.prog w = .ok (.int .i64 30) w := fun _ => by kernel_rfl
  have x8 : ∀ w : World, (Instr.index 66 (.agg #[.int .i64 12, .int .i64 2, .int .i64 4, .int .i64 60, .int .i64 4, .int .i64 4, .int .i64 1, .int .i64 30, .int .i64 40, .int .i64 2, .int .i64 6, .int .i64 1]) (.int .i64 8)).run Try.prog w = .ok (.int .i64 40) w := fun _ => by kernel_rfl
  have x9 : ∀ w : World, (Instr.index 66 (.agg #[.int .i64 12, .int .i64 2, .int .i64 4, .int .i64 60, .int .i64 4, .int .i64 4, .int .i64 1, .int .i64 30, .int .i64 40, .int .i64 2, .int .i64 6, .int .i64 1]) (.int .i64 9)).run Try.prog w = .ok (.int .i64 2) w := fun _ => by kernel_rfl
  have x10 : ∀ w : World, (Instr.index 66 (.agg #[.int .i64 12, .int .i64 2, .int .i64 4, .int .i64 60, .int .i64 4, .int .i64 4, .int .i64 1, .int .i64 30, .int .i64 40, .int .i64 2, .int .i64 6, .int .i64 1]) (.int .i64 10)).run Try.prog w = .ok (.int .i64 6) w := fun _ => by kernel_rfl
  have x11 : ∀ w : World, (Instr.index 66 (.agg #[.int .i64 12, .int .i64 2, .int .i64 4, .int .i64 60, .int .i64 4, .int .i64 4, .int .i64 1, .int .i64 30, .int .i64 40, .int .i64 2, .int .i64 6, .int .i64 1]) (.int .i64 11)).run Try.prog w = .ok (.int .i64 1) w := fun _ => by kernel_rfl
  have c1 := cellG h 1 (v := .int .i64 12) rfl
  have c2 := cellG h 2 (v := .int .i64 2) rfl
  have c3 := cellG h 3 (v := .int .i64 4) rfl
  have c4 := cellG h 4 (v := .int .i64 60) rfl
  have c5 := cellG h 5 (v := .int .i64 4) rfl
  have c6 := cellG h 6 (v := .int .i64 4) rfl
  have c7 := cellG h 7 (v := .int .i64 1) rfl
  have c8 := cellG h 8 (v := .int .i64 30) rfl
  have c9 := cellG h 9 (v := .int .i64 40) rfl
  have c10 := cellG h 10 (v := .int .i64 2) rfl
  have c11 := cellG h 11 (v := .int .i64 6) rfl
  have c12 := cellG h 12 (v := .int .i64 1) rfl
  have HH := Lib.hid h
  clear ha h
  go_enter Try.func58, Try.ntmps58
  go_wp2_with fail
  go_loopw [4, 14] (fun sv iv wr => ∃ (j c : Int), iv = .int .i64 j ∧ sv = .int .i64 c ∧ Hid ((j = 0 ∧ c = 0) ∨ (j = 1 ∧ c = 12) ∨ (j = 2 ∧ c = 14) ∨ (j = 3 ∧ c = 18) ∨ (j = 4 ∧ c = 78) ∨ (j = 5 ∧ c = 82) ∨ (j = 6 ∧ c = 86) ∨ (j = 7 ∧ c = 87) ∨ (j = 8 ∧ c = 117) ∨ (j = 9 ∧ c = 157) ∨ (j = 10 ∧ c = 159) ∨ (j = 11 ∧ c = 165) ∨ (j = 12 ∧ c = 166)) ∧ Hid (wr = w)) (fun _ iv _ => 12 - (intOf iv).toNat)
  case atStart => exact ⟨0, 0, rfl, rfl, Lib.hid (by decide), Lib.hid rfl⟩
  case round =>
    obtain ⟨j, cc, rfl, rfl, hrl, hwr⟩ := hrel
    obtain rfl := hwr.out
    obtain ⟨w, hw⟩ : ∃ W, W = wr := ⟨_, rfl⟩
    subst hw
    rcases hrl.out with ⟨rfl, rfl⟩ | ⟨rfl, rfl⟩ | ⟨rfl, rfl⟩ | ⟨rfl, rfl⟩ | ⟨rfl, rfl⟩ | ⟨rfl, rfl⟩ | ⟨rfl, rfl⟩ | ⟨rfl, rfl⟩ | ⟨rfl, rfl⟩ | ⟨rfl, rfl⟩ | ⟨rfl, rfl⟩ | ⟨rfl, rfl⟩ | ⟨rfl, rfl⟩
    rotate_right 1
    · clear c1 c2 c3 c4 c5 c6 c7 c8 c9 c10 c11 c12
      go_wp2_with fail
      refine Calls.mono c ?_
      rintro e w1 ⟨rfl, hw1⟩
      have hn := (HH.out.bl hw1).1
      have c1 := cellG hn 1 (v := .int .i64 12) rfl
      have c2 := cellG hn 2 (v := .int .i64 2) rfl
      have c3 := cellG hn 3 (v := .int .i64 4) rfl
      have c4 := cellG hn 4 (v := .int .i64 60) rfl
      have c5 := cellG hn 5 (v := .int .i64 4) rfl
      have c6 := cellG hn 6 (v := .int .i64 4) rfl
      have c7 := cellG hn 7 (v := .int .i64 1) rfl
      have c8 := cellG hn 8 (v := .int .i64 30) rfl
      have c9 := cellG hn 9 (v := .int .i64 40) rfl
      have c10 := cellG hn 10 (v := .int .i64 2) rfl
      have c11 := cellG hn 11 (v := .int .i64 6) rfl
      have c12 := cellG hn 12 (v := .int .i64 1) rfl
      have HW := Lib.hid hw1
      clear c hw1 hrl hwr hn
      go_wp2_with fail
      go_loopw [7, 30] (fun av iv wr => ∃ (j y : Int), iv = .int .i64 j ∧ av = .int .i64 y ∧ Hid (0 ≤ y ∧ ((j = 0 ∧ y = a - 0) ∨ (j = 1 ∧ y = a - 12) ∨ (j = 2 ∧ y = a - 14) ∨ (j = 3 ∧ y = a - 18) ∨ (j = 4 ∧ y = a - 78) ∨ (j = 5 ∧ y = a - 82) ∨ (j = 6 ∧ y = a - 86) ∨ (j = 7 ∧ y = a - 87) ∨ (j = 8 ∧ y = a - 117) ∨ (j = 9 ∧ y = a - 157) ∨ (j = 10 ∧ y = a - 159) ∨ (j = 11 ∧ y = a - 165) ∨ (j = 12 ∧ y = a - 166))) ∧ Hid (wr = w1)) (fun _ iv _ => 12 - (intOf iv).toNat)
      case atStart => exact ⟨0, a, rfl, rfl, Lib.hid ⟨b1, by simp⟩, Lib.hid rfl⟩
      case round =>
        obtain ⟨j, y, rfl, rfl, hrl, hwr⟩ := hrel
        obtain rfl := hwr.out
        obtain ⟨hy0, hc⟩ := hrl.out
        have hy1 : y ≤ 166 := by omega
        clear hrl
        rcases hc with ⟨rfl, hy⟩ | ⟨rfl, hy⟩ | ⟨rfl, hy⟩ | ⟨rfl, hy⟩ | ⟨rfl, hy⟩ | ⟨rfl, hy⟩ | ⟨rfl, hy⟩ | ⟨rfl, hy⟩ | ⟨rfl, hy⟩ | ⟨rfl, hy⟩ | ⟨rfl, hy⟩ | ⟨rfl, hy⟩ | ⟨rfl, hy⟩
        · have HY := Lib.hid hy
          clear x1 x2 x3 x4 x5 x6 x7 x8 x9 x10 x11
          clear c1 c2 c3 c4 c5 c6 c7 c8 c9 c10 c11 c12
          by_cases hlt : y < 12
          · have hk : kdF a = 0 := by
              unfold kdF
              repeat' split
              all_goals omega
            have HK := Lib.hid hk
            have hd : decide (y < 12) = true := decide_eq_true hlt
            clear hk hy
            go_wp2_with fail
            go_returns
            exact ⟨by rw [HK.out]; rfl, HW.out⟩
          · have hd : decide (y < 12) = false := decide_eq_false hlt
            have hd2 : ¬ y < 12 := hlt
            have hws : IntKind.i64.wrap (y - 12) = y - 12 := by rw [IntKind.wrap_i64]; omega
            clear hy
            go_wp2_with fail
            exact ⟨⟨_, _, rfl, rfl, Lib.hid ⟨by omega, by have := HY.out; omega⟩, Lib.hid (by first | trivial | rfl)⟩, by decide⟩
        · have HY := Lib.hid hy
          clear x0 x2 x3 x4 x5 x6 x7 x8 x9 x10 x11
          clear c1 c2 c3 c4 c5 c6 c7 c8 c9 c10 c11 c12
          by_cases hlt : y < 2
          · have hk : kdF a = 1 := by
              unfold kdF
              repeat' split
              all_goals omega
            have HK := Lib.hid hk
            have hd : decide (y < 2) = true := decide_eq_true hlt
            clear hk hy
            go_wp2_with fail
            go_returns
            exact ⟨by rw [HK.out]; rfl, HW.out⟩
          · have hd : decide (y < 2) = false := decide_eq_false hlt
            have hd2 : ¬ y < 2 := hlt
            have hws : IntKind.i64.wrap (y - 2) = y - 2 := by rw [IntKind.wrap_i64]; omega
            clear hy
            go_wp2_with fail
            exact ⟨⟨_, _, rfl, rfl, Lib.hid ⟨by omega, by have := HY.out; omega⟩, Lib.hid (by first | trivial | rfl)⟩, by decide⟩
        · have HY := Lib.hid hy
          clear x0 x1 x3 x4 x5 x6 x7 x8 x9 x10 x11
          clear c1 c2 c3 c4 c5 c6 c7 c8 c9 c10 c11 c12
          by_cases hlt : y < 4
          · have hk : kdF a = 2 := by
              unfold kdF
              repeat' split
              all_goals omega
            have HK := Lib.hid hk
            have hd : decide (y < 4) = true := decide_eq_true hlt
            clear hk hy
            go_wp2_with fail
            go_returns
            exact ⟨by rw [HK.out]; rfl, HW.out⟩
          · have hd : decide (y < 4) = false := decide_eq_false hlt
            have hd2 : ¬ y < 4 := hlt
            have hws : IntKind.i64.wrap (y - 4) = y - 4 := by rw [IntKind.wrap_i64]; omega
            clear hy
            go_wp2_with fail
            exact ⟨⟨_, _, rfl, rfl, Lib.hid ⟨by omega, by have := HY.out; omega⟩, Lib.hid (by first | trivial | rfl)⟩, by decide⟩
        · have HY := Lib.hid hy
          clear x0 x1 x2 x4 x5 x6 x7 x8 x9 x10 x11
          clear c1 c2 c3 c4 c5 c6 c7 c8 c9 c10 c11 c12
          by_cases hlt : y < 60
          · have hk : kdF a = 3 := by
              unfold kdF
              repeat' split
              all_goals omega
            have HK := Lib.hid hk
            have hd : decide (y < 60) = true := decide_eq_true hlt
            clear hk hy
            go_wp2_with fail
            go_returns
            exact ⟨by rw [HK.out]; rfl, HW.out⟩
          · have hd : decide (y < 60) = false := decide_eq_false hlt
            have hd2 : ¬ y < 60 := hlt
            have hws : IntKind.i64.wrap (y - 60) = y - 60 := by rw [IntKind.wrap_i64]; omega
            clear hy
            go_wp2_with fail
            exact ⟨⟨_, _, rfl, rfl, Lib.hid ⟨by omega, by have := HY.out; omega⟩, Lib.hid (by first | trivial | rfl)⟩, by decide⟩
        · have HY := Lib.hid hy
          clear x0 x1 x2 x3 x5 x6 x7 x8 x9 x10 x11
          clear c1 c2 c3 c4 c5 c6 c7 c8 c9 c10 c11 c12
          by_cases hlt : y < 4
          · have hk : kdF a = 4 := by
              unfold kdF
              repeat' split
              all_goals omega
            have HK := Lib.hid hk
            have hd : decide (y < 4) = true := decide_eq_true hlt
            clear hk hy
            go_wp2_with fail
            go_returns
            exact ⟨by rw [HK.out]; rfl, HW.out⟩
          · have hd : decide (y < 4) = false := decide_eq_false hlt
            have hd2 : ¬ y < 4 := hlt
            have hws : IntKind.i64.wrap (y - 4) = y - 4 := by rw [IntKind.wrap_i64]; omega
            clear hy
            go_wp2_with fail
            exact ⟨⟨_, _, rfl, rfl, Lib.hid ⟨by omega, by have := HY.out; omega⟩, Lib.hid (by first | trivial | rfl)⟩, by decide⟩
        · have HY := Lib.hid hy
          clear x0 x1 x2 x3 x4 x6 x7 x8 x9 x10 x11
          clear c1 c2 c3 c4 c5 c6 c7 c8 c9 c10 c11 c12
          by_cases hlt : y < 4
          · have hk : kdF a = 5 := by
              unfold kdF
              repeat' split
              all_goals omega
            have HK := Lib.hid hk
            have hd : decide (y < 4) = true := decide_eq_true hlt
            clear hk hy
            go_wp2_with fail
            go_returns
            exact ⟨by rw [HK.out]; rfl, HW.out⟩
          · have hd : decide (y < 4) = false := decide_eq_false hlt
            have hd2 : ¬ y < 4 := hlt
            have hws : IntKind.i64.wrap (y - 4) = y - 4 := by rw [IntKind.wrap_i64]; omega
            clear hy
            go_wp2_with fail
            exact ⟨⟨_, _, rfl, rfl, Lib.hid ⟨by omega, by have := HY.out; omega⟩, Lib.hid (by first | trivial | rfl)⟩, by decide⟩
        · have HY := Lib.hid hy
          clear x0 x1 x2 x3 x4 x5 x7 x8 x9 x10 x11
          clear c1 c2 c3 c4 c5 c6 c7 c8 c9 c10 c11 c12
          by_cases hlt : y < 1
          · have hk : kdF a = 6 := by
              unfold kdF
              repeat' split
              all_goals omega
            have HK := Lib.hid hk
            have hd : decide (y < 1) = true := decide_eq_true hlt
            clear hk hy
            go_wp2_with fail
            go_returns
            exact ⟨by rw [HK.out]; rfl, HW.out⟩
          · have hd : decide (y < 1) = false := decide_eq_false hlt
            have hd2 : ¬ y < 1 := hlt
            have hws : IntKind.i64.wrap (y - 1) = y - 1 := by rw [IntKind.wrap_i64]; omega
            clear hy
            go_wp2_with fail
            exact ⟨⟨_, _, rfl, rfl, Lib.hid ⟨by omega, by have := HY.out; omega⟩, Lib.hid (by first | trivial | rfl)⟩, by decide⟩
        · have HY := Lib.hid hy
          clear x0 x1 x2 x3 x4 x5 x6 x8 x9 x10 x11
          clear c1 c2 c3 c4 c5 c6 c7 c8 c9 c10 c11 c12
          by_cases hlt : y < 30
          · have hk : kdF a = 7 := by
              unfold kdF
              repeat' split
              all_goals omega
            have HK := Lib.hid hk
            have hd : decide (y < 30) = true := decide_eq_true hlt
            clear hk hy
            go_wp2_with fail
            go_returns
            exact ⟨by rw [HK.out]; rfl, HW.out⟩
          · have hd : decide (y < 30) = false := decide_eq_false hlt
            have hd2 : ¬ y < 30 := hlt
            have hws : IntKind.i64.wrap (y - 30) = y - 30 := by rw [IntKind.wrap_i64]; omega
            clear hy
            go_wp2_with fail
            exact ⟨⟨_, _, rfl, rfl, Lib.hid ⟨by omega, by have := HY.out; omega⟩, Lib.hid (by first | trivial | rfl)⟩, by decide⟩
        · have HY := Lib.hid hy
          clear x0 x1 x2 x3 x4 x5 x6 x7 x9 x10 x11
          clear c1 c2 c3 c4 c5 c6 c7 c8 c9 c10 c11 c12
          by_cases hlt : y < 40
          · have hk : kdF a = 8 := by
              unfold kdF
              repeat' split
              all_goals omega
            have HK := Lib.hid hk
            have hd : decide (y < 40) = true := decide_eq_true hlt
            clear hk hy
            go_wp2_with fail
            go_returns
            exact ⟨by rw [HK.out]; rfl, HW.out⟩
          · have hd : decide (y < 40) = false := decide_eq_false hlt
            have hd2 : ¬ y < 40 := hlt
            have hws : IntKind.i64.wrap (y - 40) = y - 40 := by rw [IntKind.wrap_i64]; omega
            clear hy
            go_wp2_with fail
            exact ⟨⟨_, _, rfl, rfl, Lib.hid ⟨by omega, by have := HY.out; omega⟩, Lib.hid (by first | trivial | rfl)⟩, by decide⟩
        · have HY := Lib.hid hy
          clear x0 x1 x2 x3 x4 x5 x6 x7 x8 x10 x11
          clear c1 c2 c3 c4 c5 c6 c7 c8 c9 c10 c11 c12
          by_cases hlt : y < 2
          · have hk : kdF a = 9 := by
              unfold kdF
              repeat' split
              all_goals omega
            have HK := Lib.hid hk
            have hd : decide (y < 2) = true := decide_eq_true hlt
            clear hk hy
            go_wp2_with fail
            go_returns
            exact ⟨by rw [HK.out]; rfl, HW.out⟩
          · have hd : decide (y < 2) = false := decide_eq_false hlt
            have hd2 : ¬ y < 2 := hlt
            have hws : IntKind.i64.wrap (y - 2) = y - 2 := by rw [IntKind.wrap_i64]; omega
            clear hy
            go_wp2_with fail
            exact ⟨⟨_, _, rfl, rfl, Lib.hid ⟨by omega, by have := HY.out; omega⟩, Lib.hid (by first | trivial | rfl)⟩, by decide⟩
        · have HY := Lib.hid hy
          clear x0 x1 x2 x3 x4 x5 x6 x7 x8 x9 x11
          clear c1 c2 c3 c4 c5 c6 c7 c8 c9 c10 c11 c12
          by_cases hlt : y < 6
          · have hk : kdF a = 10 := by
              unfold kdF
              repeat' split
              all_goals omega
            have HK := Lib.hid hk
            have hd : decide (y < 6) = true := decide_eq_true hlt
            clear hk hy
            go_wp2_with fail
            go_returns
            exact ⟨by rw [HK.out]; rfl, HW.out⟩
          · have hd : decide (y < 6) = false := decide_eq_false hlt
            have hd2 : ¬ y < 6 := hlt
            have hws : IntKind.i64.wrap (y - 6) = y - 6 := by rw [IntKind.wrap_i64]; omega
            clear hy
            go_wp2_with fail
            exact ⟨⟨_, _, rfl, rfl, Lib.hid ⟨by omega, by have := HY.out; omega⟩, Lib.hid (by first | trivial | rfl)⟩, by decide⟩
        · have HY := Lib.hid hy
          clear x0 x1 x2 x3 x4 x5 x6 x7 x8 x9 x10
          clear c1 c2 c3 c4 c5 c6 c7 c8 c9 c10 c11 c12
          by_cases hlt : y < 1
          · have hk : kdF a = 11 := by
              unfold kdF
              repeat' split
              all_goals omega
            have HK := Lib.hid hk
            have hd : decide (y < 1) = true := decide_eq_true hlt
            clear hk hy
            go_wp2_with fail
            go_returns
            exact ⟨by rw [HK.out]; rfl, HW.out⟩
          · have hd : decide (y < 1) = false := decide_eq_false hlt
            have hd2 : ¬ y < 1 := hlt
            have hws : IntKind.i64.wrap (y - 1) = y - 1 := by rw [IntKind.wrap_i64]; omega
            clear hy
            go_wp2_with fail
            exact ⟨⟨_, _, rfl, rfl, Lib.hid ⟨by omega, by have := HY.out; omega⟩, Lib.hid (by first | trivial | rfl)⟩, by decide⟩
        · exfalso
          omega
    · clear x1 x2 x3 x4 x5 x6 x7 x8 x9 x10 x11
      clear c1 c2 c3 c4 c5 c6 c7 c8 c9 c10 c11 c12
      clear c
      go_wp2_with fail
      exact ⟨⟨_, _, rfl, rfl, Lib.hid (by decide), Lib.hid (by first | trivial | rfl)⟩, by decide⟩
    · clear x0 x2 x3 x4 x5 x6 x7 x8 x9 x10 x11
      clear c1 c2 c3 c4 c5 c6 c7 c8 c9 c10 c11 c12
      clear c
      go_wp2_with fail
      exact ⟨⟨_, _, rfl, rfl, Lib.hid (by decide), Lib.hid (by first | trivial | rfl)⟩, by decide⟩
    · clear x0 x1 x3 x4 x5 x6 x7 x8 x9 x10 x11
      clear c1 c2 c3 c4 c5 c6 c7 c8 c9 c10 c11 c12
      clear c
      go_wp2_with fail
      exact ⟨⟨_, _, rfl, rfl, Lib.hid (by decide), Lib.hid (by first | trivial | rfl)⟩, by decide⟩
    · clear x0 x1 x2 x4 x5 x6 x7 x8 x9 x10 x11
      clear c1 c2 c3 c4 c5 c6 c7 c8 c9 c10 c11 c12
      clear c
      go_wp2_with fail
      exact ⟨⟨_, _, rfl, rfl, Lib.hid (by decide), Lib.hid (by first | trivial | rfl)⟩, by decide⟩
    · clear x0 x1 x2 x3 x5 x6 x7 x8 x9 x10 x11
      clear c1 c2 c3 c4 c5 c6 c7 c8 c9 c10 c11 c12
      clear c
      go_wp2_with fail
      exact ⟨⟨_, _, rfl, rfl, Lib.hid (by decide), Lib.hid (by first | trivial | rfl)⟩, by decide⟩
    · clear x0 x1 x2 x3 x4 x6 x7 x8 x9 x10 x11
      clear c1 c2 c3 c4 c5 c6 c7 c8 c9 c10 c11 c12
      clear c
      go_wp2_with fail
      exact ⟨⟨_, _, rfl, rfl, Lib.hid (by decide), Lib.hid (by first | trivial | rfl)⟩, by decide⟩
    · clear x0 x1 x2 x3 x4 x5 x7 x8 x9 x10 x11
      clear c1 c2 c3 c4 c5 c6 c7 c8 c9 c10 c11 c12
      clear c
      go_wp2_with fail
      exact ⟨⟨_, _, rfl, rfl, Lib.hid (by decide), Lib.hid (by first | trivial | rfl)⟩, by decide⟩
    · clear x0 x1 x2 x3 x4 x5 x6 x8 x9 x10 x11
      clear c1 c2 c3 c4 c5 c6 c7 c8 c9 c10 c11 c12
      clear c
      go_wp2_with fail
      exact ⟨⟨_, _, rfl, rfl, Lib.hid (by decide), Lib.hid (by first | trivial | rfl)⟩, by decide⟩
    · clear x0 x1 x2 x3 x4 x5 x6 x7 x9 x10 x11
      clear c1 c2 c3 c4 c5 c6 c7 c8 c9 c10 c11 c12
      clear c
      go_wp2_with fail
      exact ⟨⟨_, _, rfl, rfl, Lib.hid (by decide), Lib.hid (by first | trivial | rfl)⟩, by decide⟩
    · clear x0 x1 x2 x3 x4 x5 x6 x7 x8 x10 x11
      clear c1 c2 c3 c4 c5 c6 c7 c8 c9 c10 c11 c12
      clear c
      go_wp2_with fail
      exact ⟨⟨_, _, rfl, rfl, Lib.hid (by decide), Lib.hid (by first | trivial | rfl)⟩, by decide⟩
    · clear x0 x1 x2 x3 x4 x5 x6 x7 x8 x9 x11
      clear c1 c2 c3 c4 c5 c6 c7 c8 c9 c10 c11 c12
      clear c
      go_wp2_with fail
      exact ⟨⟨_, _, rfl, rfl, Lib.hid (by decide), Lib.hid (by first | trivial | rfl)⟩, by decide⟩
    · clear x0 x1 x2 x3 x4 x5 x6 x7 x8 x9 x10
      clear c1 c2 c3 c4 c5 c6 c7 c8 c9 c10 c11 c12
      clear c
      go_wp2_with fail
      exact ⟨⟨_, _, rfl, rfl, Lib.hid (by decide), Lib.hid (by first | trivial | rfl)⟩, by decide⟩
set_option maxHeartbeats 16000000 in
set_option maxRecDepth 100000 in
theorem skindZ (g : Nat) (s : Int) (w : World) (h : w.heap[g]? = some (.cells (zeroC s) 109)) : Calls Try.prog 58 #[.pointer (some ⟨g, 0, none⟩)] w fun e w' => e = .returned (.tuple #[.int .i64 0, .bool false]) ∧ w' = w := by
  have x0 : ∀ w : World, (Instr.index 66 (.agg #[.int .i64 0, .int .i64 0, .int .i64 0, .int .i64 0, .int .i64 0, .int .i64 0, .int .i64 0, .int .i64 0, .int .i64 0, .int .i64 0, .int .i64 0, .int .i64 0]) (.int .i64 0)).run Try.prog w = .ok (.int .i64 0) w := fun _ => by kernel_rfl
  have x1 : ∀ w : World, (Instr.index 66 (.agg #[.int .i64 0, .int .i64 0, .int .i64 0, .int .i64 0, .int .i64 0, .int .i64 0, .int .i64 0, .int .i64 0, .int .i64 0, .int .i64 0, .int .i64 0, .int .i64 0]) (.int .i64 1)).run Try.prog w = .ok (.int .i64 0) w := fun _ => by kernel_rfl
  have x2 : ∀ w : World, (Instr.index 66 (.agg #[.int .i64 0, .int .i64 0, .int .i64 0, .int .i64 0, .int .i64 0, .int .i64 0, .int .i64 0, .int .i64 0, .int .i64 0, .int .i64 0, .int .i64 0, .int .i64 0]) (.int .i64 2)).run Try.prog w = .ok (.int .i64 0) w := fun _ => by kernel_rfl
  have x3 : ∀ w : World, (Instr.index 66 (.agg #[.int .i64 0, .int .i64 0, .int .i64 0, .int .i64 0, .int .i64 0, .int .i64 0, .int .i64 0, .int .i64 0, .int .i64 0, .int .i64 0, .int .i64 0, .int .i64 0]) (.int .i64 3)).run Try.prog w = .ok (.int .i64 0) w := fun _ => by kernel_rfl
  have x4 : ∀ w : World, (Instr.index 66 (.agg #[.int .i64 0, .int .i64 0, .int .i64 0, .int .i64 0, .int .i64 0, .int .i64 0, .int .i64 0, .int .i64 0, .int .i64 0, .int .i64 0, .int .i64 0, .int .i64 0]) (.int .i64 4)).run Try.prog w = .ok (.int .i64 0) w := fun _ => by kernel_rfl
  have x5 : ∀ w : World, (Instr.index 66 (.agg #[.int .i64 0, .int .i64 0, .int .i64 0, .int .i64 0, .int .i64 0, .int .i64 0, .int .i64 0, .int .i64 0, .int .i64 0, .int .i64 0, .int .i64 0, .int .i64 0]) (.int .i64 5)).run Try.prog w = .ok (.int .i64 0) w := fun _ => by kernel_rfl
  have x6 : ∀ w : World, (Instr.index 66 (.agg #[.int .i64 0, .int .i64 0, .int .i64 0, .int .i64 0, .int .i64 0, .int .i64 0, .int .i64 0, .int .i64 0, .int .i64 0, .int .i64 0, .int .i64 0, .int .i64 0]) (.int .i64 6)).run Try.prog w = .ok (.int .i64 0) w := fun _ => by kernel_rfl
  have x7 : ∀ w : World, (Instr.index 66 (.agg #[.int .i64 0, .int .i64 0, .int .i64 0, .int .i64 0, .int .i64 0, .int .i64 0, .int .i64 0, .int .i64 0, .int .i64 0, .int .i64 0, .int .i64 0, .int .i64 0]) (.int .i64 7)).run Try.prog w = .ok (.int .i64 0) w := fun _ => by kernel_rfl
  have x8 : ∀ w : World, (Instr.index 66 (.agg #[.int .i64 0, .int .i64 0, .int .i64 0, .int .i64 0, .int .i64 0, .int .i64 0, .int .i64 0, .int .i64 0, .int .i64 0, .int .i64 0, .int .i64 0, .int .i64 0]) (.int .i64 8)).run Try.prog w = .ok (.int .i64 0) w := fun _ => by kernel_rfl
  have x9 : ∀ w : World, (Instr.index 66 (.agg #[.int .i64 0, .int .i64 0, .int .i64 0, .int .i64 0, .int .i64 0, .int .i64 0, .int .i64 0, .int .i64 0, .int .i64 0, .int .i64 0, .int .i64 0, .int .i64 0]) (.int .i64 9)).run Try.prog w = .ok (.int .i64 0) w := fun _ => by kernel_rfl
  have x10 : ∀ w : World, (Instr.index 66 (.agg #[.int .i64 0, .int .i64 0, .int .i64 0, .int .i64 0, .int .i64 0, .int .i64 0, .int .i64 0, .int .i64 0, .int .i64 0, .int .i64 0, .int .i64 0, .int .i64 0]) (.int .i64 10)).run Try.prog w = .ok (.int .i64 0) w := fun _ => by kernel_rfl
  have x11 : ∀ w : World, (Instr.index 66 (.agg #[.int .i64 0, .int .i64 0, .int .i64 0, .int .i64 0, .int .i64 0, .int .i64 0, .int .i64 0, .int .i64 0, .int .i64 0, .int .i64 0, .int .i64 0, .int .i64 0]) (.int .i64 11)).run Try.prog w = .ok (.int .i64 0) w := fun _ => by kernel_rfl
  have c1 := cellG h 1 (v := .int .i64 0) rfl
  have c2 := cellG h 2 (v := .int .i64 0) rfl
  have c3 := cellG h 3 (v := .int .i64 0) rfl
  have c4 := cellG h 4 (v := .int .i64 0) rfl
  have c5 := cellG h 5 (v := .int .i64 0) rfl
  have c6 := cellG h 6 (v := .int .i64 0) rfl
  have c7 := cellG h 7 (v := .int .i64 0) rfl
  have c8 := cellG h 8 (v := .int .i64 0) rfl
  have c9 := cellG h 9 (v := .int .i64 0) rfl
  have c10 := cellG h 10 (v := .int .i64 0) rfl
  have c11 := cellG h 11 (v := .int .i64 0) rfl
  have c12 := cellG h 12 (v := .int .i64 0) rfl
  clear h
  go_enter Try.func58, Try.ntmps58
  go_wp2_with fail
  go_loopw [4, 14] (fun sv iv wr => ∃ (j : Int), iv = .int .i64 j ∧ sv = .int .i64 0 ∧ Hid ((j = 0) ∨ (j = 1) ∨ (j = 2) ∨ (j = 3) ∨ (j = 4) ∨ (j = 5) ∨ (j = 6) ∨ (j = 7) ∨ (j = 8) ∨ (j = 9) ∨ (j = 10) ∨ (j = 11) ∨ (j = 12)) ∧ Hid (wr = w)) (fun _ iv _ => 12 - (intOf iv).toNat)
  case atStart => exact ⟨0, rfl, rfl, Lib.hid (by decide), Lib.hid rfl⟩
  case round =>
    obtain ⟨j, rfl, rfl, hrl, hwr⟩ := hrel
    obtain rfl := hwr.out
    rcases hrl.out with rfl | rfl | rfl | rfl | rfl | rfl | rfl | rfl | rfl | rfl | rfl | rfl | rfl
    rotate_right 1
    · go_wp2_with fail
      go_returns
      exact ⟨rfl, rfl⟩
    · clear x1 x2 x3 x4 x5 x6 x7 x8 x9 x10 x11
      clear c1 c2 c3 c4 c5 c6 c7 c8 c9 c10 c11 c12
      go_wp2_with fail
      exact ⟨⟨_, rfl, rfl, Lib.hid (by decide), Lib.hid (by first | trivial | rfl)⟩, by decide⟩
    · clear x0 x2 x3 x4 x5 x6 x7 x8 x9 x10 x11
      clear c1 c2 c3 c4 c5 c6 c7 c8 c9 c10 c11 c12
      go_wp2_with fail
      exact ⟨⟨_, rfl, rfl, Lib.hid (by decide), Lib.hid (by first | trivial | rfl)⟩, by decide⟩
    · clear x0 x1 x3 x4 x5 x6 x7 x8 x9 x10 x11
      clear c1 c2 c3 c4 c5 c6 c7 c8 c9 c10 c11 c12
      go_wp2_with fail
      exact ⟨⟨_, rfl, rfl, Lib.hid (by decide), Lib.hid (by first | trivial | rfl)⟩, by decide⟩
    · clear x0 x1 x2 x4 x5 x6 x7 x8 x9 x10 x11
      clear c1 c2 c3 c4 c5 c6 c7 c8 c9 c10 c11 c12
      go_wp2_with fail
      exact ⟨⟨_, rfl, rfl, Lib.hid (by decide), Lib.hid (by first | trivial | rfl)⟩, by decide⟩
    · clear x0 x1 x2 x3 x5 x6 x7 x8 x9 x10 x11
      clear c1 c2 c3 c4 c5 c6 c7 c8 c9 c10 c11 c12
      go_wp2_with fail
      exact ⟨⟨_, rfl, rfl, Lib.hid (by decide), Lib.hid (by first | trivial | rfl)⟩, by decide⟩
    · clear x0 x1 x2 x3 x4 x6 x7 x8 x9 x10 x11
      clear c1 c2 c3 c4 c5 c6 c7 c8 c9 c10 c11 c12
      go_wp2_with fail
      exact ⟨⟨_, rfl, rfl, Lib.hid (by decide), Lib.hid (by first | trivial | rfl)⟩, by decide⟩
    · clear x0 x1 x2 x3 x4 x5 x7 x8 x9 x10 x11
      clear c1 c2 c3 c4 c5 c6 c7 c8 c9 c10 c11 c12
      go_wp2_with fail
      exact ⟨⟨_, rfl, rfl, Lib.hid (by decide), Lib.hid (by first | trivial | rfl)⟩, by decide⟩
    · clear x0 x1 x2 x3 x4 x5 x6 x8 x9 x10 x11
      clear c1 c2 c3 c4 c5 c6 c7 c8 c9 c10 c11 c12
      go_wp2_with fail
      exact ⟨⟨_, rfl, rfl, Lib.hid (by decide), Lib.hid (by first | trivial | rfl)⟩, by decide⟩
    · clear x0 x1 x2 x3 x4 x5 x6 x7 x9 x10 x11
      clear c1 c2 c3 c4 c5 c6 c7 c8 c9 c10 c11 c12
      go_wp2_with fail
      exact ⟨⟨_, rfl, rfl, Lib.hid (by decide), Lib.hid (by first | trivial | rfl)⟩, by decide⟩
    · clear x0 x1 x2 x3 x4 x5 x6 x7 x8 x10 x11
      clear c1 c2 c3 c4 c5 c6 c7 c8 c9 c10 c11 c12
      go_wp2_with fail
      exact ⟨⟨_, rfl, rfl, Lib.hid (by decide), Lib.hid (by first | trivial | rfl)⟩, by decide⟩
    · clear x0 x1 x2 x3 x4 x5 x6 x7 x8 x9 x11
      clear c1 c2 c3 c4 c5 c6 c7 c8 c9 c10 c11 c12
      go_wp2_with fail
      exact ⟨⟨_, rfl, rfl, Lib.hid (by decide), Lib.hid (by first | trivial | rfl)⟩, by decide⟩
    · clear x0 x1 x2 x3 x4 x5 x6 x7 x8 x9 x10
      clear c1 c2 c3 c4 c5 c6 c7 c8 c9 c10 c11 c12
      go_wp2_with fail
      exact ⟨⟨_, rfl, rfl, Lib.hid (by decide), Lib.hid (by first | trivial | rfl)⟩, by decide⟩
end Go.Proofs.Ytfgmeeponipjeaa
