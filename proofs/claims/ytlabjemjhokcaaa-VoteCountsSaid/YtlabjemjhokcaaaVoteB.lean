/-
  VoteCounts' walk. (Under way.)
-/
import Derived.Test.YtlabjemjhokcaaaVote
import Derived.Deep.RegionWith
import Derived.Deep.RegionHeld3
import Derived.StillTailTactics
import Derived.Deep.DeepCutAuto
namespace Go.Proofs.Ytlabjemjhokcaaa
open Go.RowKit
set_option linter.unusedVariables false

/-- the k-th number of a row that came in -/
theorem row_cell {w : World} {a : Option Addr} {len cap : Nat} {zs : List Int} (h : RowOf .i64 w a len cap zs) (hl : 0 < len) :
    ∃ b off, a = some ⟨b, off, none⟩ ∧ b < w.heap.size ∧ len ≤ maxLen ∧ ∀ j, j < len → w.cell? ⟨b, off + j, none⟩ = some (.int .i64 (zs.getD j 0)) := by
  rcases h with ⟨rfl, rfl, rfl, rfl⟩ | ⟨⟨b, off, spot⟩, rfl, hl', hm, hz, hc, hw⟩
  · omega
  · have c0 := hc 0 (by omega)
    have hs : spot = none := by
      have := World.cell?_spot c0
      simpa [Addr.add] using this
    subst hs
    have hb : b < w.heap.size := by
      have := World.block_lt_of_cell? w _ c0
      simpa [Addr.add] using this
    refine ⟨b, off, rfl, hb, by omega, fun j hj => ?_⟩
    have hcj := hc j (by omega)
    have ha : (⟨b, off, none⟩ : Addr).add j = ⟨b, off + j, none⟩ := by unfold Addr.add; split <;> simp_all
    rw [ha] at hcj
    exact hcj
theorem two_blocks (w : World) (o p : Obj) : ((w.alloc o).alloc p).heap[w.heap.size]? = some o ∧ ((w.alloc o).alloc p).heap[w.heap.size + 1]? = some p := by
  constructor
  · rw [Below.heap_alloc (w.alloc o) p w.heap.size (by simp)]
    exact heap_alloc_self w o
  · have := heap_alloc_self (w.alloc o) p
    simpa using this
theorem of_drew {B : Nat} {x y : World} (h : Below B x.drew y) : Below B x y := ⟨h.os, h.tape, h.output, h.size, h.block⟩
def numOf : Value → Int | .int _ n => n | _ => 0
set_option maxRecDepth 20000 in
set_option maxHeartbeats 1600000 in
theorem counts_law (a : Option Addr) (len cap : Nat) (zs : List Int) (w : World) (hr : RowOf .i64 w a len cap zs) :
    Calls Try.prog 5 #[.slice a len cap] w fun v w' => v = .returned (.bool true) ∧ Below w.heap.size w w' := by
  go_enter Try.func5, Try.ntmps5
  go_wp2_with fail
  refine Calls.mono (none_any _) ?_
  rintro v w1 ⟨rfl, h1⟩
  go_wp2_with fail
  have hB : w.heap.size ≤ w1.heap.size := h1.size
  have i1 : ((w1.alloc (.cells #[.bool false, .bool false, .bool false] 43)).alloc (.cells #[.bool false, .bool false, .bool false] 41)).heap[w1.heap.size]? = some (.cells #[.bool false, .bool false, .bool false] 43) := (two_blocks _ _ _).1
  have i2 : ((w1.alloc (.cells #[.bool false, .bool false, .bool false] 43)).alloc (.cells #[.bool false, .bool false, .bool false] 41)).heap[w1.heap.size + 1]? = some (.cells #[.bool false, .bool false, .bool false] 41) := (two_blocks _ _ _).2
  have i3 : Below w.heap.size w ((w1.alloc (.cells #[.bool false, .bool false, .bool false] 43)).alloc (.cells #[.bool false, .bool false, .bool false] 41)) := h1.trans (by go_grown)
  generalize (w1.alloc (.cells #[.bool false, .bool false, .bool false] 43)).alloc (.cells #[.bool false, .bool false, .bool false] 41) = w2 at *
  generalize w1.heap.size = B at *
  clear h1
  go_loopw [5] (fun i wr => ∃ (k : Nat) (x y z : Bool), k ≤ len ∧ k ≤ 30 ∧ i = .int .i64 k ∧ wr.heap[B]? = some (.cells #[.bool x, .bool y, .bool z] 43) ∧ wr.heap[B + 1]? = some (.cells #[.bool x, .bool y, .bool z] 41) ∧ Below w.heap.size w wr) (fun i _ => 30 - (numOf i).toNat)
  case atStart => exact ⟨0, false, false, false, Nat.zero_le _, Nat.zero_le _, rfl, i1, i2, i3⟩
  case round =>
    obtain ⟨k, x, y, z, kl, k30, rfl, g1, g2, hbel⟩ := hrel
    by_cases hin : k < len ∧ k < 30
    · obtain ⟨b, off, rfl, hb, hm, hcell⟩ := row_cell hr (by omega)
      have hm' : len ≤ 9223372036854775807 := hm
      obtain ⟨hk1, hk2⟩ := hin
      have hc0 : wr.cell? ⟨B, 0, none⟩ = some (.bool x) := by simp [World.cell?, g1]
      have hc1 : wr.cell? ⟨B, 1, none⟩ = some (.bool y) := by simp [World.cell?, g1]
      have hc2 : wr.cell? ⟨B, 2, none⟩ = some (.bool z) := by simp [World.cell?, g1]
      have hcl : wr.cell? ⟨b, off + k, none⟩ = some (.int .i64 (zs.getD k 0)) := by rw [hbel.cell hb]; exact hcell k hk1
      have hBl : B < wr.heap.size := lt_heap g1
      have hbl : b < wr.heap.size := by omega
      generalize zs.getD k 0 = n at *
      have hn : n = 0 ∨ n = 1 ∨ n = 2 ∨ n < 0 ∨ 3 ≤ n := by omega
      obtain ⟨X, Y, Z, hXYZ⟩ : ∃ X Y Z : Bool, X = (x || decide (n = 0)) ∧ Y = (y || decide (n = 1)) ∧ Z = (z || decide (n = 2)) := ⟨_, _, _, rfl, rfl, rfl⟩
      have cw : ∀ w', Calls Try.prog 28 #[.agg #[.bool x, .bool y, .bool z], .int .i64 n] w' fun v w'' => v = .returned (.agg #[.bool X, .bool Y, .bool Z]) ∧ Below w'.heap.size w' w'' := by
        obtain ⟨rfl, rfl, rfl⟩ := hXYZ
        exact fun w' => with_any x y z n w'
      have HX := Lib.hid hXYZ
      have HN := Lib.hid hn
      clear hXYZ hn
      clear hcell
      go_wp2_with fail
      go_still_tail 5, (by kernel_rfl)
      change wpList _ _ _ _ _ wr.drew
      go_wp2_with fail
      refine Calls.mono (cw _) ?_
      rintro e w3 ⟨rfl, hw3'⟩
      have hw3 : Below wr.heap.size wr w3 := of_drew hw3'
      clear hw3'
      have q1 : w3.heap[B]? = some (.cells #[.bool x, .bool y, .bool z] 43) := below_at hw3 hBl g1
      have q2 : w3.heap[B + 1]? = some (.cells #[.bool x, .bool y, .bool z] 41) := below_at hw3 (lt_heap g2) g2
      have q3 : w3.cell? ⟨b, off + k, none⟩ = some (.int .i64 n) := (hw3.cell hbl).trans hcl
      have q4 : Below w.heap.size w w3 := hbel.trans (hw3.mono (by have := hbel.size; simp; omega))
      clear hw3 hcl hc0 hc1 hc2 g1 g2 hbel cw
      have c0 : w3.cell? ⟨B, 0, none⟩ = some (.bool x) := by simp [World.cell?, q1]
      have c1 : w3.cell? ⟨B, 1, none⟩ = some (.bool y) := by simp [World.cell?, q1]
      have c2 : w3.cell? ⟨B, 2, none⟩ = some (.bool z) := by simp [World.cell?, q1]
      have f0 : w3.frozen? ⟨B, 0, none⟩ = false := by simp [World.frozen?, q1]
      have f1 : w3.frozen? ⟨B, 1, none⟩ = false := by simp [World.frozen?, q1]
      have f2 : w3.frozen? ⟨B, 2, none⟩ = false := by simp [World.frozen?, q1]
      go_upto_region 6 with fail
      have r1 : (((w3.setCell ⟨B, 0, none⟩ (.bool X)).setCell ⟨B, 1, none⟩ (.bool Y)).setCell ⟨B, 2, none⟩ (.bool Z)).heap[B]? = some (.cells #[.bool X, .bool Y, .bool Z] 43) := heap_set_self (heap_set_self (heap_set_self q1 0 _) 1 _) 2 _
      have r2 : (((w3.setCell ⟨B, 0, none⟩ (.bool X)).setCell ⟨B, 1, none⟩ (.bool Y)).setCell ⟨B, 2, none⟩ (.bool Z)).heap[B + 1]? = some (.cells #[.bool x, .bool y, .bool z] 41) :=
        (Below.heap_setCell _ _ _ _ (by simp)).trans ((Below.heap_setCell _ _ _ _ (by simp)).trans ((Below.heap_setCell _ _ _ _ (by simp)).trans q2))
      have r3 : (((w3.setCell ⟨B, 0, none⟩ (.bool X)).setCell ⟨B, 1, none⟩ (.bool Y)).setCell ⟨B, 2, none⟩ (.bool Z)).cell? ⟨b, off + k, none⟩ = some (.int .i64 n) := by
        rw [World.cell?_setCell_other _ _ _ _ (by simp), World.cell?_setCell_other _ _ _ _ (by simp), World.cell?_setCell_other _ _ _ _ (by simp)]
        exact q3
      have r4 : Below w.heap.size w (((w3.setCell ⟨B, 0, none⟩ (.bool X)).setCell ⟨B, 1, none⟩ (.bool Y)).setCell ⟨B, 2, none⟩ (.bool Z)) := ((q4.setCell (by simpa using hB) _).setCell (by simpa using hB) _).setCell (by simpa using hB) _
      clear c0 c1 c2 f0 f1 f2 q1 q2 q3 q4
      generalize (((w3.setCell ⟨B, 0, none⟩ (.bool X)).setCell ⟨B, 1, none⟩ (.bool Y)).setCell ⟨B, 2, none⟩ (.bool Z)) = w4 at *
      clear w3
      go_cut [37] (fun s wx => s = .bool (decide (0 ≤ n ∧ n < 3)) ∧ wx = w4)
      case first =>
        rcases HN.out with h | h | h | h | h
        all_goals
          first | subst h | skip
          go_wp2_with fail
          go_meet
          exact ⟨by simp; try omega, rfl⟩
      case rest =>
        obtain ⟨h37, rfl⟩ := hcut
        subst h37
        go_upto_if 37 with fail
        go_cut [] (fun wx => wx.heap[B]? = some (.cells #[.bool X, .bool Y, .bool Z] 43) ∧ wx.heap[B + 1]? = some (.cells #[.bool X, .bool Y, .bool Z] 41) ∧ Below w.heap.size w wx)
        case first =>
          have t0 : wc.cell? ⟨B + 1, 0, none⟩ = some (.bool x) := by simp [World.cell?, r2]
          have t1 : wc.cell? ⟨B + 1, 1, none⟩ = some (.bool y) := by simp [World.cell?, r2]
          have t2 : wc.cell? ⟨B + 1, 2, none⟩ = some (.bool z) := by simp [World.cell?, r2]
          have f0 : wc.frozen? ⟨B + 1, 0, none⟩ = false := by simp [World.frozen?, r2]
          have f1 : wc.frozen? ⟨B + 1, 1, none⟩ = false := by simp [World.frozen?, r2]
          have f2 : wc.frozen? ⟨B + 1, 2, none⟩ = false := by simp [World.frozen?, r2]
          rcases HN.out with h | h | h | h | h
          · subst h
            go_wp2_with fail
            go_meet
            have hx := HX.out
            refine ⟨(Below.heap_setCell _ _ _ _ (by simp)).trans r1, ?_, r4.setCell (by simp; omega) _⟩
            rw [heap_set_self r2]
            simp [hx.1, hx.2.1, hx.2.2]
          · subst h
            go_wp2_with fail
            go_meet
            have hx := HX.out
            refine ⟨(Below.heap_setCell _ _ _ _ (by simp)).trans r1, ?_, r4.setCell (by simp; omega) _⟩
            rw [heap_set_self r2]
            simp [hx.1, hx.2.1, hx.2.2]
          · subst h
            go_wp2_with fail
            go_meet
            have hx := HX.out
            refine ⟨(Below.heap_setCell _ _ _ _ (by simp)).trans r1, ?_, r4.setCell (by simp; omega) _⟩
            rw [heap_set_self r2]
            simp [hx.1, hx.2.1, hx.2.2]
          all_goals
            go_wp2_with fail
            go_meet
            have hx := HX.out
            refine ⟨r1, ?_, r4⟩
            have h0 : decide (n = 0) = false := by simp; omega
            have h1 : decide (n = 1) = false := by simp; omega
            have h2 : decide (n = 2) = false := by simp; omega
            rw [hx.1, hx.2.1, hx.2.2, h0, h1, h2]
            simpa using r2
        case rest =>
          clear r1 r2 r3 r4 HX HN
          obtain ⟨r1, r2, r4⟩ := hcut
          rename_i wo _ _ wc
          have t0 : wc.cell? ⟨B + 1, 0, none⟩ = some (.bool X) := by simp [World.cell?, r2]
          have t1 : wc.cell? ⟨B + 1, 1, none⟩ = some (.bool Y) := by simp [World.cell?, r2]
          have t2 : wc.cell? ⟨B + 1, 2, none⟩ = some (.bool Z) := by simp [World.cell?, r2]
          have v0 : wc.cell? ⟨B, 0, none⟩ = some (.bool X) := by simp [World.cell?, r1]
          have v1 : wc.cell? ⟨B, 1, none⟩ = some (.bool Y) := by simp [World.cell?, r1]
          have v2 : wc.cell? ⟨B, 2, none⟩ = some (.bool Z) := by simp [World.cell?, r1]
          have cm := fun w => many_any X Y Z w
          have cn := fun w => won_any X Y Z w
          cases X <;> cases Y <;> cases Z
          all_goals
            simp at cm cn
            go_wp2_with fail
            refine wp_loop_rounds 4 ?_
            rw [rounds_succ]
            go_wp2_with fail
            rw [rounds_succ]
            go_wp2_with fail
            rw [rounds_succ]
            go_wp2_with fail
            rw [rounds_succ]
            go_wp2_with fail
            refine Calls.mono (cm _) ?_
            rintro e w5 ⟨rfl, h5⟩
            have p1 := below_at h5 (lt_heap r1) r1
            have p2 := below_at h5 (lt_heap r2) r2
            have p4 : Below w.heap.size w w5 := r4.trans (h5.mono r4.size)
            clear h5 r1 r2 r4 t0 t1 t2 v0 v1 v2
            have v0 : w5.cell? ⟨B, 0, none⟩ = some _ := (by simp [World.cell?, p1]; rfl)
            have v1 : w5.cell? ⟨B, 1, none⟩ = some _ := (by simp [World.cell?, p1]; rfl)
            have v2 : w5.cell? ⟨B, 2, none⟩ = some _ := (by simp [World.cell?, p1]; rfl)
            go_wp2_with fail
            refine Calls.mono (cn _) ?_
            rintro e w6 ⟨rfl, h6⟩
            have q1 := below_at h6 (lt_heap p1) p1
            have q2 := below_at h6 (lt_heap p2) p2
            have q4 : Below w.heap.size w w6 := p4.trans (h6.mono p4.size)
            clear h6 p1 p2 p4 v0 v1 v2
            go_wp2_with fail
            go_roundw
            case rel => exact ⟨k + 1, _, _, _, by omega, by omega, by go_num, q1, q2, q4⟩
            case measure => simp [numOf]; omega
    · have cm := fun w => many_any false false false w
      simp at cm
      clear g1 g2 i1 i2 i3
      by_cases hl : k < len
      · have h30 : ¬ (k < 30) := fun h => hin ⟨hl, h⟩
        clear hin
        have h30' : ¬ ((k : Int) < 30) := by omega
        have hd : decide ((k : Int) < 30) = false := by simpa using h30'
        go_wp2_with fail
        refine Calls.mono (vote_awake _) ?_
        rintro e w5 ⟨rfl, h5⟩
        have p5 : Below w.heap.size w w5 := hbel.trans (h5.mono hbel.size)
        clear h5 hbel
        go_wp2_with fail
        refine Calls.mono (none_any _) ?_
        rintro e w6 ⟨rfl, h6⟩
        have p6 : Below w.heap.size w w6 := p5.trans (h6.mono p5.size)
        clear h6 p5
        go_wp2_with fail
        refine Calls.mono (cm _) ?_
        rintro e w7 ⟨rfl, h7⟩
        have p7 : Below w.heap.size w w7 := p6.trans (h7.mono p6.size)
        clear h7 p6
        go_wp2_with fail
        go_ret
        exact ⟨rfl, p7⟩
      · have hl' : ¬ ((k : Int) < len) := by omega
        clear hin
        go_wp2_with fail
        refine Calls.mono (vote_awake _) ?_
        rintro e w5 ⟨rfl, h5⟩
        have p5 : Below w.heap.size w w5 := hbel.trans (h5.mono hbel.size)
        clear h5 hbel
        go_wp2_with fail
        refine Calls.mono (none_any _) ?_
        rintro e w6 ⟨rfl, h6⟩
        have p6 : Below w.heap.size w w6 := p5.trans (h6.mono p5.size)
        clear h6 p5
        go_wp2_with fail
        refine Calls.mono (cm _) ?_
        rintro e w7 ⟨rfl, h7⟩
        have p7 : Below w.heap.size w w7 := p6.trans (h7.mono p6.size)
        clear h7 p6
        go_wp2_with fail
        go_ret
        exact ⟨rfl, p7⟩
end Go.Proofs.Ytlabjemjhokcaaa
