/-
  A watch: the contracts of Up and Quiet; the waking call.
-/
import Derived.Test.YtlabjemjhokcaaaWatch
import Derived.Test.YtlabjemjhokcaaaPendC
namespace Go.Proofs.Ytlabjemjhokcaaa
open Go.RowKit
set_option linter.unusedVariables false

theorem up_nil (w : World) : Calls Try.prog 57 #[.pointer none] w fun e w' => e = .returned (.agg #[.bool false, .bool false, .bool false, .bool false, .bool false]) ∧ Below w.heap.size w w' := by
  go_enter Try.func57, Try.ntmps57
  go_wp2_with fail
  go_returns
  exact ⟨rfl, by go_grown⟩
def upA (k q0 q1 q2 q3 q4 : Int) : Nat → Array Value
  | 0 => #[.bool (false), .bool (false), .bool (false), .bool (false), .bool (false)]
  | 1 => #[.bool (decide (q0 ≤ k)), .bool (false), .bool (false), .bool (false), .bool (false)]
  | 2 => #[.bool (decide (q0 ≤ k)), .bool (decide (q1 ≤ k)), .bool (false), .bool (false), .bool (false)]
  | 3 => #[.bool (decide (q0 ≤ k)), .bool (decide (q1 ≤ k)), .bool (decide (q2 ≤ k)), .bool (false), .bool (false)]
  | 4 => #[.bool (decide (q0 ≤ k)), .bool (decide (q1 ≤ k)), .bool (decide (q2 ≤ k)), .bool (decide (q3 ≤ k)), .bool (false)]
  | _ => #[.bool (decide (q0 ≤ k)), .bool (decide (q1 ≤ k)), .bool (decide (q2 ≤ k)), .bool (decide (q3 ≤ k)), .bool (decide (q4 ≤ k))]
def UpRel (B : Nat) (A : Array Value) (w wr : World) : Prop := wr.heap[B + 1]? = some (.cells A 69) ∧ wr.heap[B]? = some (.cells #[.bool false, .bool false, .bool false, .bool false, .bool false] 69) ∧ Below B w wr
set_option maxRecDepth 20000 in
set_option maxHeartbeats 3200000 in
theorem up_any (g : Nat) (k q0 q1 q2 q3 q4 : Int) (w : World) (h : Wt w g k q0 q1 q2 q3 q4) :
    Calls Try.prog 57 #[.pointer (some ⟨g, 0, none⟩)] w fun e w' => e = .returned (.agg #[.bool (decide (q0 ≤ k)), .bool (decide (q1 ≤ k)), .bool (decide (q2 ≤ k)), .bool (decide (q3 ≤ k)), .bool (decide (q4 ≤ k))]) ∧ Below w.heap.size w w' := by
  have x0 : ∀ w : World, (Instr.index 88 (.agg #[.int .i64 q0, .int .i64 q1, .int .i64 q2, .int .i64 q3, .int .i64 q4]) (.int .i64 0)).run Try.prog w = .ok (.int .i64 q0) w := fun _ => by kernel_rfl
  have x1 : ∀ w : World, (Instr.index 88 (.agg #[.int .i64 q0, .int .i64 q1, .int .i64 q2, .int .i64 q3, .int .i64 q4]) (.int .i64 1)).run Try.prog w = .ok (.int .i64 q1) w := fun _ => by kernel_rfl
  have x2 : ∀ w : World, (Instr.index 88 (.agg #[.int .i64 q0, .int .i64 q1, .int .i64 q2, .int .i64 q3, .int .i64 q4]) (.int .i64 2)).run Try.prog w = .ok (.int .i64 q2) w := fun _ => by kernel_rfl
  have x3 : ∀ w : World, (Instr.index 88 (.agg #[.int .i64 q0, .int .i64 q1, .int .i64 q2, .int .i64 q3, .int .i64 q4]) (.int .i64 3)).run Try.prog w = .ok (.int .i64 q3) w := fun _ => by kernel_rfl
  have x4 : ∀ w : World, (Instr.index 88 (.agg #[.int .i64 q0, .int .i64 q1, .int .i64 q2, .int .i64 q3, .int .i64 q4]) (.int .i64 4)).run Try.prog w = .ok (.int .i64 q4) w := fun _ => by kernel_rfl
  have c0 : w.cell? ⟨g, 0, none⟩ = some (.int .i64 k) := by simp [World.cell?, h.out']
  have c1 : w.cell? ⟨g, 1, none⟩ = some (.int .i64 q0) := by simp [World.cell?, h.out']
  have c2 : w.cell? ⟨g, 2, none⟩ = some (.int .i64 q1) := by simp [World.cell?, h.out']
  have c3 : w.cell? ⟨g, 3, none⟩ = some (.int .i64 q2) := by simp [World.cell?, h.out']
  have c4 : w.cell? ⟨g, 4, none⟩ = some (.int .i64 q3) := by simp [World.cell?, h.out']
  have c5 : w.cell? ⟨g, 5, none⟩ = some (.int .i64 q4) := by simp [World.cell?, h.out']
  have hg := lt_heap h
  clear h
  go_enter Try.func57, Try.ntmps57
  go_wp2_with fail
  go_loopw [13] (fun i wr => ∃ j : Nat, j ≤ 5 ∧ i = .int .i64 j ∧ UpRel w.heap.size (upA k q0 q1 q2 q3 q4 j) w wr) (fun i _ => 5 - (intOf i).toNat)
  case atStart => exact ⟨0, by omega, rfl, (two_blocks _ _ _).2, (two_blocks _ _ _).1, by go_grown⟩
  case round =>
    obtain ⟨j, hj, rfl, hw, hb, hbel⟩ := hrel
    have hj' : j = 0 ∨ j = 1 ∨ j = 2 ∨ j = 3 ∨ j = 4 ∨ j = 5 := by omega
    have HB := Lib.hid hb
    have HE := Lib.hid hbel
    have d0 : wr.cell? ⟨g, 0, none⟩ = some (.int .i64 k) := (hbel.cell (p := ⟨g, 0, none⟩) hg).trans c0
    clear c0 c1 c2 c3 c4 c5 hb hbel
    rcases hj' with rfl | rfl | rfl | rfl | rfl | rfl
    · have HW := Lib.hid hw
      have c : wr.cell? ⟨w.heap.size + 1, 0, none⟩ = some (.bool false) := by simp [World.cell?, hw, upA]
      have f : wr.frozen? ⟨w.heap.size + 1, 0, none⟩ = false := by simp [World.frozen?, hw]
      clear hw
      go_wp2_with fail
      go_roundw
      case rel => exact ⟨1, by omega, rfl, heap_set_self HW.out 0 _, (Below.heap_setCell _ _ _ _ (by simp)).trans HB.out, HE.out.setCell (by simp) _⟩
      case measure => simp [intOf]
    · have HW := Lib.hid hw
      have c : wr.cell? ⟨w.heap.size + 1, 1, none⟩ = some (.bool false) := by simp [World.cell?, hw, upA]
      have f : wr.frozen? ⟨w.heap.size + 1, 1, none⟩ = false := by simp [World.frozen?, hw]
      clear hw
      go_wp2_with fail
      go_roundw
      case rel => exact ⟨2, by omega, rfl, heap_set_self HW.out 1 _, (Below.heap_setCell _ _ _ _ (by simp)).trans HB.out, HE.out.setCell (by simp) _⟩
      case measure => simp [intOf]
    · have HW := Lib.hid hw
      have c : wr.cell? ⟨w.heap.size + 1, 2, none⟩ = some (.bool false) := by simp [World.cell?, hw, upA]
      have f : wr.frozen? ⟨w.heap.size + 1, 2, none⟩ = false := by simp [World.frozen?, hw]
      clear hw
      go_wp2_with fail
      go_roundw
      case rel => exact ⟨3, by omega, rfl, heap_set_self HW.out 2 _, (Below.heap_setCell _ _ _ _ (by simp)).trans HB.out, HE.out.setCell (by simp) _⟩
      case measure => simp [intOf]
    · have HW := Lib.hid hw
      have c : wr.cell? ⟨w.heap.size + 1, 3, none⟩ = some (.bool false) := by simp [World.cell?, hw, upA]
      have f : wr.frozen? ⟨w.heap.size + 1, 3, none⟩ = false := by simp [World.frozen?, hw]
      clear hw
      go_wp2_with fail
      go_roundw
      case rel => exact ⟨4, by omega, rfl, heap_set_self HW.out 3 _, (Below.heap_setCell _ _ _ _ (by simp)).trans HB.out, HE.out.setCell (by simp) _⟩
      case measure => simp [intOf]
    · have HW := Lib.hid hw
      have c : wr.cell? ⟨w.heap.size + 1, 4, none⟩ = some (.bool false) := by simp [World.cell?, hw, upA]
      have f : wr.frozen? ⟨w.heap.size + 1, 4, none⟩ = false := by simp [World.frozen?, hw]
      clear hw
      go_wp2_with fail
      go_roundw
      case rel => exact ⟨5, by omega, rfl, heap_set_self HW.out 4 _, (Below.heap_setCell _ _ _ _ (by simp)).trans HB.out, HE.out.setCell (by simp) _⟩
      case measure => simp [intOf]
    · have hb := HB.out
      have q_0 : wr.cell? ⟨w.heap.size + 1, 0, none⟩ = some (.bool (decide (q0 ≤ k))) := by simp [World.cell?, hw, upA]
      have q_1 : wr.cell? ⟨w.heap.size + 1, 1, none⟩ = some (.bool (decide (q1 ≤ k))) := by simp [World.cell?, hw, upA]
      have q_2 : wr.cell? ⟨w.heap.size + 1, 2, none⟩ = some (.bool (decide (q2 ≤ k))) := by simp [World.cell?, hw, upA]
      have q_3 : wr.cell? ⟨w.heap.size + 1, 3, none⟩ = some (.bool (decide (q3 ≤ k))) := by simp [World.cell?, hw, upA]
      have q_4 : wr.cell? ⟨w.heap.size + 1, 4, none⟩ = some (.bool (decide (q4 ≤ k))) := by simp [World.cell?, hw, upA]
      have r_0 : wr.cell? ⟨w.heap.size, 0, none⟩ = some (.bool false) := by simp [World.cell?, hb]
      have r_1 : wr.cell? ⟨w.heap.size, 1, none⟩ = some (.bool false) := by simp [World.cell?, hb]
      have r_2 : wr.cell? ⟨w.heap.size, 2, none⟩ = some (.bool false) := by simp [World.cell?, hb]
      have r_3 : wr.cell? ⟨w.heap.size, 3, none⟩ = some (.bool false) := by simp [World.cell?, hb]
      have r_4 : wr.cell? ⟨w.heap.size, 4, none⟩ = some (.bool false) := by simp [World.cell?, hb]
      have f0 : ∀ j, wr.frozen? ⟨w.heap.size, j, none⟩ = false := fun j => by simp [World.frozen?, hb]
      have FI := Lib.hid (show (((((wr.setCell ⟨w.heap.size, 0, none⟩ (.bool (decide (q0 ≤ k)))).setCell ⟨w.heap.size, 1, none⟩ (.bool (decide (q1 ≤ k)))).setCell ⟨w.heap.size, 2, none⟩ (.bool (decide (q2 ≤ k)))).setCell ⟨w.heap.size, 3, none⟩ (.bool (decide (q3 ≤ k)))).setCell ⟨w.heap.size, 4, none⟩ (.bool (decide (q4 ≤ k)))).heap[w.heap.size]? = some (.cells #[.bool (decide (q0 ≤ k)), .bool (decide (q1 ≤ k)), .bool (decide (q2 ≤ k)), .bool (decide (q3 ≤ k)), .bool (decide (q4 ≤ k))] 69) from heap_set_self (heap_set_self (heap_set_self (heap_set_self (heap_set_self hb 0 _) 1 _) 2 _) 3 _) 4 _)
      have FB := Lib.hid (show Below w.heap.size w (((((wr.setCell ⟨w.heap.size, 0, none⟩ (.bool (decide (q0 ≤ k)))).setCell ⟨w.heap.size, 1, none⟩ (.bool (decide (q1 ≤ k)))).setCell ⟨w.heap.size, 2, none⟩ (.bool (decide (q2 ≤ k)))).setCell ⟨w.heap.size, 3, none⟩ (.bool (decide (q3 ≤ k)))).setCell ⟨w.heap.size, 4, none⟩ (.bool (decide (q4 ≤ k)))) from ((((HE.out.setCell (by simp) _).setCell (by simp) _).setCell (by simp) _).setCell (by simp) _).setCell (by simp) _)
      clear hw hb HB HE
      go_wp2_with fail
      generalize (((((wr.setCell ⟨w.heap.size, 0, none⟩ (.bool (decide (q0 ≤ k)))).setCell ⟨w.heap.size, 1, none⟩ (.bool (decide (q1 ≤ k)))).setCell ⟨w.heap.size, 2, none⟩ (.bool (decide (q2 ≤ k)))).setCell ⟨w.heap.size, 3, none⟩ (.bool (decide (q3 ≤ k)))).setCell ⟨w.heap.size, 4, none⟩ (.bool (decide (q4 ≤ k)))) = wf at *
      have fi := FI.out
      have s0 : wf.cell? ⟨w.heap.size, 0, none⟩ = some (.bool (decide (q0 ≤ k))) := by simp [World.cell?, fi]
      have s1 : wf.cell? ⟨w.heap.size, 1, none⟩ = some (.bool (decide (q1 ≤ k))) := by simp [World.cell?, fi]
      have s2 : wf.cell? ⟨w.heap.size, 2, none⟩ = some (.bool (decide (q2 ≤ k))) := by simp [World.cell?, fi]
      have s3 : wf.cell? ⟨w.heap.size, 3, none⟩ = some (.bool (decide (q3 ≤ k))) := by simp [World.cell?, fi]
      have s4 : wf.cell? ⟨w.heap.size, 4, none⟩ = some (.bool (decide (q4 ≤ k))) := by simp [World.cell?, fi]
      clear fi
      refine bodyPost_ret (v := .agg #[.bool (decide (q0 ≤ k)), .bool (decide (q1 ≤ k)), .bool (decide (q2 ≤ k)), .bool (decide (q3 ≤ k)), .bool (decide (q4 ≤ k))]) (by simp [results, Try.results57, go_sem, s0, s1, s2, s3, s4]) rfl ?_
      exact ⟨rfl, FB.out⟩
set_option maxRecDepth 20000 in
set_option maxHeartbeats 3200000 in
theorem quiet_of (p : Value) (y0 y1 y2 y3 y4 : Bool) (w : World) (hc : Calls Try.prog 57 #[p] w fun e w' => e = .returned (.agg #[.bool (y0), .bool (y1), .bool (y2), .bool (y3), .bool (y4)]) ∧ Below w.heap.size w w') :
    Calls Try.prog 58 #[p] w (LeftPost (leftK (pB (!y0) (!y1) (!y2) (!y3) (!y4)) 5) w) := by
  obtain ⟨i0, hi, hz0, hz1, hz2⟩ := info_parts info_i64
  have x0 : ∀ w : World, (Instr.index 69 (.agg #[.bool (y0), .bool (y1), .bool (y2), .bool (y3), .bool (y4)]) (.int .i64 0)).run Try.prog w = .ok (.bool y0) w := fun _ => by kernel_rfl
  have x1 : ∀ w : World, (Instr.index 69 (.agg #[.bool (y0), .bool (y1), .bool (y2), .bool (y3), .bool (y4)]) (.int .i64 1)).run Try.prog w = .ok (.bool y1) w := fun _ => by kernel_rfl
  have x2 : ∀ w : World, (Instr.index 69 (.agg #[.bool (y0), .bool (y1), .bool (y2), .bool (y3), .bool (y4)]) (.int .i64 2)).run Try.prog w = .ok (.bool y2) w := fun _ => by kernel_rfl
  have x3 : ∀ w : World, (Instr.index 69 (.agg #[.bool (y0), .bool (y1), .bool (y2), .bool (y3), .bool (y4)]) (.int .i64 3)).run Try.prog w = .ok (.bool y3) w := fun _ => by kernel_rfl
  have x4 : ∀ w : World, (Instr.index 69 (.agg #[.bool (y0), .bool (y1), .bool (y2), .bool (y3), .bool (y4)]) (.int .i64 4)).run Try.prog w = .ok (.bool y4) w := fun _ => by kernel_rfl
  obtain ⟨f, hf⟩ : ∃ f, f = pB (!y0) (!y1) (!y2) (!y3) (!y4) := ⟨_, rfl⟩
  rw [← hf]
  have f0 : f 0 = !y0 := by rw [hf]; rfl
  have f1 : f 1 = !y1 := by rw [hf]; rfl
  have f2 : f 2 = !y2 := by rw [hf]; rfl
  have f3 : f 3 = !y3 := by rw [hf]; rfl
  have f4 : f 4 = !y4 := by rw [hf]; rfl
  have F := Lib.hid (And.intro f0 (And.intro f1 (And.intro f2 (And.intro f3 f4))))
  clear f0 f1 f2 f3 f4 hf
  go_enter Try.func58, Try.ntmps58
  go_wp2_with fail
  refine Calls.mono hc ?_
  rintro v w1 ⟨rfl, hb1⟩
  have HB1 := Lib.hid hb1
  clear hb1 hc
  go_wp2_with fail
  go_loopw [3, 8] (fun v i wr => ∃ k : Nat, k ≤ 5 ∧ i = .int .i64 k ∧ LeftRel f k v w wr) (fun _ i _ => 5 - (intOf i).toNat)
  case atStart => exact ⟨0, by omega, rfl, World.ownsRow_nil _ _ _ _, HB1.out⟩
  case round =>
    obtain ⟨k, hk, rfl, hrel⟩ := hrel
    have hkl := leftK_le f k
    have HR := Lib.hid hrel
    have hsz := hrel.2.size
    have hk' : k = 0 ∨ k = 1 ∨ k = 2 ∨ k = 3 ∨ k = 4 ∨ k = 5 := by omega
    clear hrel HB1
    rcases hk' with rfl | rfl | rfl | rfl | rfl | rfl
    · cases y0
      · go_wp2_with (at_builtin; refine wp_app Try.underlying22 hi hz0 hz1 hz2 rfl (by decide) rfl (.tmp 14) (.tmp 16) rfl w.heap.size _ _ _ rfl (HR.out.1.alloc _) _ 1 [.int .i64 0] rfl (SR.lit _ _ _ 1 1 (by decide) rfl) ?c1 ?c2 ?c3 ?c4 ?_)
        case c1 => intro y hy; simp at hy; subst hy; rfl
        case c2 => unfold maxLen; omega
        case c3 => omega
        case c4 => simp; omega
        intro v' w2 hown2 hgr
        have HG := Lib.hid hgr
        have HO := Lib.hid hown2
        clear hgr hown2
        go_wp2_with fail
        go_roundw
        case rel => exact ⟨1, by omega, rfl, left_step HR.out F.out.1 HO.out HG.out⟩
        case measure => simp [intOf]
      · go_wp2_with fail
        go_roundw
        case rel => exact ⟨1, by omega, rfl, left_skip HR.out F.out.1⟩
        case measure => simp [intOf]
    · cases y1
      · go_wp2_with (at_builtin; refine wp_app Try.underlying22 hi hz0 hz1 hz2 rfl (by decide) rfl (.tmp 14) (.tmp 16) rfl w.heap.size _ _ _ rfl (HR.out.1.alloc _) _ 1 [.int .i64 1] rfl (SR.lit _ _ _ 1 1 (by decide) rfl) ?c1 ?c2 ?c3 ?c4 ?_)
        case c1 => intro y hy; simp at hy; subst hy; rfl
        case c2 => unfold maxLen; omega
        case c3 => omega
        case c4 => simp; omega
        intro v' w2 hown2 hgr
        have HG := Lib.hid hgr
        have HO := Lib.hid hown2
        clear hgr hown2
        go_wp2_with fail
        go_roundw
        case rel => exact ⟨2, by omega, rfl, left_step HR.out F.out.2.1 HO.out HG.out⟩
        case measure => simp [intOf]
      · go_wp2_with fail
        go_roundw
        case rel => exact ⟨2, by omega, rfl, left_skip HR.out F.out.2.1⟩
        case measure => simp [intOf]
    · cases y2
      · go_wp2_with (at_builtin; refine wp_app Try.underlying22 hi hz0 hz1 hz2 rfl (by decide) rfl (.tmp 14) (.tmp 16) rfl w.heap.size _ _ _ rfl (HR.out.1.alloc _) _ 1 [.int .i64 2] rfl (SR.lit _ _ _ 1 1 (by decide) rfl) ?c1 ?c2 ?c3 ?c4 ?_)
        case c1 => intro y hy; simp at hy; subst hy; rfl
        case c2 => unfold maxLen; omega
        case c3 => omega
        case c4 => simp; omega
        intro v' w2 hown2 hgr
        have HG := Lib.hid hgr
        have HO := Lib.hid hown2
        clear hgr hown2
        go_wp2_with fail
        go_roundw
        case rel => exact ⟨3, by omega, rfl, left_step HR.out F.out.2.2.1 HO.out HG.out⟩
        case measure => simp [intOf]
      · go_wp2_with fail
        go_roundw
        case rel => exact ⟨3, by omega, rfl, left_skip HR.out F.out.2.2.1⟩
        case measure => simp [intOf]
    · cases y3
      · go_wp2_with (at_builtin; refine wp_app Try.underlying22 hi hz0 hz1 hz2 rfl (by decide) rfl (.tmp 14) (.tmp 16) rfl w.heap.size _ _ _ rfl (HR.out.1.alloc _) _ 1 [.int .i64 3] rfl (SR.lit _ _ _ 1 1 (by decide) rfl) ?c1 ?c2 ?c3 ?c4 ?_)
        case c1 => intro y hy; simp at hy; subst hy; rfl
        case c2 => unfold maxLen; omega
        case c3 => omega
        case c4 => simp; omega
        intro v' w2 hown2 hgr
        have HG := Lib.hid hgr
        have HO := Lib.hid hown2
        clear hgr hown2
        go_wp2_with fail
        go_roundw
        case rel => exact ⟨4, by omega, rfl, left_step HR.out F.out.2.2.2.1 HO.out HG.out⟩
        case measure => simp [intOf]
      · go_wp2_with fail
        go_roundw
        case rel => exact ⟨4, by omega, rfl, left_skip HR.out F.out.2.2.2.1⟩
        case measure => simp [intOf]
    · cases y4
      · go_wp2_with (at_builtin; refine wp_app Try.underlying22 hi hz0 hz1 hz2 rfl (by decide) rfl (.tmp 14) (.tmp 16) rfl w.heap.size _ _ _ rfl (HR.out.1.alloc _) _ 1 [.int .i64 4] rfl (SR.lit _ _ _ 1 1 (by decide) rfl) ?c1 ?c2 ?c3 ?c4 ?_)
        case c1 => intro y hy; simp at hy; subst hy; rfl
        case c2 => unfold maxLen; omega
        case c3 => omega
        case c4 => simp; omega
        intro v' w2 hown2 hgr
        have HG := Lib.hid hgr
        have HO := Lib.hid hown2
        clear hgr hown2
        go_wp2_with fail
        go_roundw
        case rel => exact ⟨5, by omega, rfl, left_step HR.out F.out.2.2.2.2 HO.out HG.out⟩
        case measure => simp [intOf]
      · go_wp2_with fail
        go_roundw
        case rel => exact ⟨5, by omega, rfl, left_skip HR.out F.out.2.2.2.2⟩
        case measure => simp [intOf]
    · go_wp2_with fail
      go_ret
      exact ⟨_, rfl, SR.owns HR.out.1, HR.out.2⟩
end Go.Proofs.Ytlabjemjhokcaaa
