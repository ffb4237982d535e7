/-
  An arc: New of whatever room, Want, Lists; no arc; the waking call of layer 22.
-/
import Derived.Test.YtadejhlljdcocaaArcR
import Derived.Test.YtadejhlljdcocaaSR
namespace Go.Proofs.Ytadejhlljdcocaa
open Go.RowKit
set_option linter.unusedVariables false
set_option linter.unusedSimpArgs false

theorem ainfo : (Try.prog.info? 3).map (fun i => (i.zero, i.size, i.bytes)) = some (some (.int .i64 0), 1, 8) := by kernel_rfl
def clampR (r : Int) : Int := min (max r 0) 64
theorem clampR_le (r : Int) : 0 ≤ clampR r ∧ clampR r ≤ 64 := by unfold clampR; omega
theorem anewA_any (r : Int) (w : World) : Calls Try.prog 29 #[.int .i64 r] w fun e w' => e = .returned (.pointer (some ⟨w.heap.size, 0, none⟩)) ∧ w' = w.alloc (.cells (arcC (clampR r) 0 (fun _ => .slice none 0 0)) 147) := by
  unfold clampR
  go_enter Try.func29, Try.ntmps29
  go_wp2_with fail
  go_ret
  exact ⟨rfl, rfl⟩
theorem awant (w : World) (N a : Nat) (R W : Int) (V : Nat → Value) (L : Nat → List Int) (h : ArcAt w N a R W V L) : Calls Try.prog 33 #[.pointer (some ⟨a, 0, none⟩)] w fun e w' => e = .returned (.int .i64 W) ∧ w = w' := by
  obtain ⟨d0, d1⟩ := h.rooms
  go_enter Try.func33, Try.ntmps33
  go_wp2_with fail
  go_ret
  exact ⟨rfl, rfl⟩
theorem RowAt.sr {w : World} {N : Nat} {v : Value} {l : List Int} (h : RowAt w N v l) : SR w v 1 l.length (nCells l) := by
  rcases h with ⟨rfl, rfl⟩ | ⟨g, cap, f, rfl, hg, hrow, hlc, hcm, hf⟩
  · exact SR.nil_ _ _
  · exact ⟨_, cap, rfl, hlc, hcm, by simp [nCells], .inr ⟨g, 0, rfl, hrow.lt, row_cells hrow hlc hf⟩⟩
set_option maxHeartbeats 1600000 in
set_option maxRecDepth 100000 in
theorem oallA (l : List Int) (w : World) (N a k : Nat) (t : TypeId) (A : Array Value) (v : Value) (h : OrdA w N a k t A v l) (hl : l.length ≤ 1000000) :
    Calls Try.prog 89 #[.pointer (some ⟨a, k, none⟩)] w fun e w' => ∃ v', e = .returned v' ∧ SR w' v' 1 l.length (nCells l) ∧ Below w.heap.size w w' := by
  obtain ⟨i0, hi, hz0, hz1, hz2⟩ := info_parts ainfo
  have hc := h.at_
  have HR := Lib.hid h.row.sr
  clear h
  go_enter Try.func89, Try.ntmps89
  go_wp2_with (at_builtin; refine wp_app Try.underlying29 hi hz0 hz1 hz2 rfl (by decide) rfl (.const (.slice none 0 0)) (.tmp 8) rfl w.heap.size (.slice none 0 0) 0 [] rfl (World.ownsRow_nil _ _ _ _) v l.length (nCells l) rfl HR.out ?c1 ?c2 ?c3 ?c4 ?_)
  case c1 => exact nCells_one l
  case c2 => unfold maxLen; omega
  case c3 => omega
  case c4 => exact Nat.le_refl _
  intro v' w2 hown2 hgr
  have HG := Lib.hid hgr
  have HO := Lib.hid hown2
  clear hgr hown2
  go_wp2_with fail
  go_ret
  refine ⟨_, rfl, ?_, below_app (Below.refl _ _) HG.out (World.ownsRow_nil w w.heap.size 3 1) (Nat.le_refl _) (Nat.le_refl _)⟩
  exact SR.owns HO.out
theorem auseN (b : Int) (w : World) : Calls Try.prog 31 #[.pointer none, .int .i64 b] w fun e w' => e = .returned (.tuple #[.int .i64 0, .bool false]) ∧ w = w' := by
  go_enter Try.func31, Try.ntmps31
  go_wp2_with fail
  go_returns
  exact ⟨rfl, rfl⟩
theorem ahasN2 (b : Int) (w : World) : Calls Try.prog 34 #[.pointer none, .int .i64 b] w fun e w' => e = .returned (.bool false) ∧ w = w' := by
  go_enter Try.func34, Try.ntmps34
  go_wp2_with fail
  go_ret
  exact ⟨rfl, rfl⟩
theorem adropN2 (b : Int) (w : World) : Calls Try.prog 30 #[.pointer none, .int .i64 b] w fun e w' => e = .returned (.bool false) ∧ w = w' := by
  go_enter Try.func30, Try.ntmps30
  go_wp2_with fail
  go_ret
  exact ⟨rfl, rfl⟩
theorem alenN2 (w : World) : Calls Try.prog 32 #[.pointer none] w fun e w' => e = .returned (.int .i64 0) ∧ w = w' := by
  go_enter Try.func32, Try.ntmps32
  go_wp2_with fail
  go_ret
  exact ⟨rfl, rfl⟩
theorem awantN2 (w : World) : Calls Try.prog 33 #[.pointer none] w fun e w' => e = .returned (.int .i64 0) ∧ w = w' := by
  go_enter Try.func33, Try.ntmps33
  go_wp2_with fail
  go_ret
  exact ⟨rfl, rfl⟩
set_option maxHeartbeats 1600000 in
set_option maxRecDepth 100000 in
theorem awake22 (w : World) : Calls Try.prog 36 #[] w fun e w' => e = .returned (.bool true) ∧ Below w.heap.size w w' := by
  have c0 := fun w => anewA_any 1 w
  rw [show clampR 1 = 1 from rfl] at c0
  have cu := fun w V h => ause_fresh 1 w w.heap.size w.heap.size 1 0 V (fun _ => []) h (by decide) (by decide) (by intro i hi; decide) (by intro i hi; rfl)
  go_enter Try.func36, Try.ntmps36
  go_wp2_with fail
  refine Calls.mono (c0 _) ?_
  rintro e w1 ⟨rfl, rfl⟩
  have h1 := arc_new w 1
  have hb1 := (Below.refl w.heap.size w).alloc (Nat.le_refl _) (.cells (arcC 1 0 (fun _ => .slice none 0 0)) 147)
  generalize w.alloc (.cells (arcC 1 0 (fun _ => .slice none 0 0)) 147) = w1 at *
  have c1 := ause_fresh 1 w1 _ _ 1 0 _ _ h1 (by decide) (by decide) (by intro i hi; decide) (by intro i hi; rfl)
  rw [show (sComes 1 0 (fun _ => ([] : List Int))).2 = none from rfl] at c1
  have HB1 := Lib.hid hb1
  clear h1 hb1 c0 cu
  unfold outV at c1
  go_wp2_with fail
  refine Calls.mono c1 ?_
  rintro e w2 ⟨rfl, V2, h2, hk2⟩
  have hb2 := HB1.out.trans hk2.below
  have h2 : ArcAt w2 w.heap.size w.heap.size 1 0 V2 (upd (fun _ => []) 0 [1]) := h2
  have c2 := ause_fresh 2 w2 _ _ 1 0 _ _ h2 (by decide) (by decide) (by intro i hi; match i, hi with | 0, _ => decide | 1, _ => decide | 2, _ => decide | 3, _ => decide) (by intro i hi; match i, hi with | 0, _ => rfl | 1, _ => rfl | 2, _ => rfl | 3, _ => rfl)
  rw [show (sComes 1 0 (upd (fun _ => ([] : List Int)) 0 [1])).2 = some 1 from rfl] at c2
  have HB2 := Lib.hid hb2
  clear h2 hb2 hk2 c1
  unfold outV at c2
  go_wp2_with fail
  refine Calls.mono c2 ?_
  rintro e w3 ⟨rfl, V3, h3, hk3⟩
  have HB3 := Lib.hid (HB2.out.trans hk3.below)
  have h3 : ArcAt w3 w.heap.size w.heap.size 1 0 V3 (upd (upd (upd (fun _ => ([] : List Int)) 0 [1]) 0 []) 0 [2]) := h3
  have ch2 := ahas 2 w3 _ _ _ _ _ _ h3
  have ch1 := ahas 1 w3 _ _ _ _ _ _ h3
  have cl := alen w3 _ _ _ _ _ _ h3 (by decide) (by decide)
  rw [show (((upd (upd (upd (fun _ => ([] : List Int)) 0 [1]) 0 []) 0 [2]) 0).contains 2 || ((upd (upd (upd (fun _ => ([] : List Int)) 0 [1]) 0 []) 0 [2]) 1).contains 2) = true from rfl] at ch2
  rw [show (((upd (upd (upd (fun _ => ([] : List Int)) 0 [1]) 0 []) 0 [2]) 0).contains 1 || ((upd (upd (upd (fun _ => ([] : List Int)) 0 [1]) 0 []) 0 [2]) 1).contains 1) = false from rfl] at ch1
  rw [show ((((upd (upd (upd (fun _ => ([] : List Int)) 0 [1]) 0 []) 0 [2]) 0).length : Int) + ((upd (upd (upd (fun _ => ([] : List Int)) 0 [1]) 0 []) 0 [2]) 1).length) = 1 from rfl] at cl
  clear h3 hk3 c2
  go_wp2_with fail
  refine Calls.mono ch2 ?_
  rintro e w4 ⟨rfl, rfl⟩
  go_wp2_with fail
  refine Calls.mono ch1 ?_
  rintro e w4 ⟨rfl, rfl⟩
  go_wp2_with fail
  refine Calls.mono cl ?_
  rintro e w4 ⟨rfl, rfl⟩
  go_wp2_with fail
  go_ret
  exact ⟨rfl, HB3.out⟩
end Go.Proofs.Ytadejhlljdcocaa
