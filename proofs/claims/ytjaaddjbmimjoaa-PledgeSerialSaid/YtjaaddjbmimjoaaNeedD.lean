/-
  need: Odd; the waking call of layer 28; NeedMay.
-/
import Derived.Test.YtjaaddjbmimjoaaNeedC
namespace Go.Proofs.Ytjaaddjbmimjoaa
open Go.RowKit
set_option linter.unusedVariables false
set_option linter.unusedSimpArgs false

theorem wrap_wf (z : Int) : (Lit.int .i64 (wrap64 z)).wf = true := wf_of (by unfold wrap64; omega)
theorem wrap_wf' (z : Int) : (Lit.int .i64 (IntKind.i64.wrap z)).wf = true := wf_of (by rw [IntKind.wrap_i64]; omega)
set_option maxHeartbeats 12800000 in
set_option maxRecDepth 100000 in
theorem odd_any (W A L : Int) (D : ByteArray) (S : Bool) (B k : Int) (w : World) (hW : (Lit.int .i64 W).wf = true) (hA : (Lit.int .i64 A).wf = true) (hL : (Lit.int .i64 L).wf = true) (hB : (Lit.int .i64 B).wf = true) (hD : D.size ≤ maxLen) :
    Calls Try.prog 38 #[.agg (askA W A L D S), .int .i64 B, .int .i64 k] w (AskPost w) := by
  have h7 := mask7 k
  have h63 : bits .and .i64 L 63 = L % 64 := mask_mod L 6 63 (by decide) (by decide)
  have cn := fun w => anear_any W A L D S B 1 w hW hA hL hB (by decide) hD
  obtain ⟨U, hU⟩ : ∃ U, k % 8 = U := ⟨_, rfl⟩
  obtain ⟨V, hV⟩ : ∃ U, L % 64 = U := ⟨_, rfl⟩
  have hUr : U = 0 ∨ U = 1 ∨ U = 2 ∨ U = 3 ∨ U = 4 ∨ U = 5 ∨ U = 6 ∨ U = 7 := by omega
  have hV0 : 0 ≤ V := by omega
  have hV1 : V ≤ 63 := by omega
  rw [hU] at h7
  rw [hV] at h63
  clear hU hV
  unfold AskPost askA at *
  have t := two_new w (.cells #[.int .i64 W, .int .i64 A, .int .i64 L, .string D, .bool S] 85) (.cells #[.int .i64 0, .int .i64 0, .int .i64 0, .string ⟨#[]⟩, .bool false] 85)
  have hb2 : Below w.heap.size w ((w.alloc (.cells #[.int .i64 W, .int .i64 A, .int .i64 L, .string D, .bool S] 85)).alloc (.cells #[.int .i64 0, .int .i64 0, .int .i64 0, .string ⟨#[]⟩, .bool false] 85)) := by go_grown
  have HT := Lib.hid t
  have HB2 := Lib.hid hb2
  have HW := Lib.hid (And.intro hW (And.intro hA hL))
  have HD := Lib.hid hD
  clear t hb2 hW hA hL hD hB
  go_enter Try.func38, Try.ntmps38
  go_upto_region 1 with fail
  generalize (w.alloc (.cells #[.int .i64 W, .int .i64 A, .int .i64 L, .string D, .bool S] 85)).alloc (.cells #[.int .i64 0, .int .i64 0, .int .i64 0, .string ⟨#[]⟩, .bool false] 85) = w2 at *
  obtain ⟨X, hX⟩ : ∃ X, w.heap.size = X := ⟨_, rfl⟩
  rw [hX] at HT HB2 ⊢
  have x2 := HT.out.1
  have a0 : w2.cell? ⟨X, 0, none⟩ = some (.int .i64 W) := by simp [World.cell?, x2]
  have a1 : w2.cell? ⟨X, 1, none⟩ = some (.int .i64 A) := by simp [World.cell?, x2]
  have a2 : w2.cell? ⟨X, 2, none⟩ = some (.int .i64 L) := by simp [World.cell?, x2]
  have a3 : w2.cell? ⟨X, 3, none⟩ = some (.string D) := by simp [World.cell?, x2]
  have a4 : w2.cell? ⟨X, 4, none⟩ = some (.bool S) := by simp [World.cell?, x2]
  clear x2
  go_wp2_with fail
  refine Calls.mono (cn _) ?_
  rintro e w3 ⟨W', A', L', D', S', rfl, p1, p2, p3, p4, hb3⟩
  have x3 := below_at hb3 (lt_heap HT.out.1) HT.out.1
  have y3 := below_at hb3 (lt_heap HT.out.2) HT.out.2
  have f0 : ∀ j, w3.frozen? ⟨X + 1, j, none⟩ = false := fun j => by simp [World.frozen?, y3]
  have y0 : w3.cell? ⟨X + 1, 0, none⟩ = some (.int .i64 0) := by simp [World.cell?, y3]
  have y1 : w3.cell? ⟨X + 1, 1, none⟩ = some (.int .i64 0) := by simp [World.cell?, y3]
  have y2 : w3.cell? ⟨X + 1, 2, none⟩ = some (.int .i64 0) := by simp [World.cell?, y3]
  have y4 : w3.cell? ⟨X + 1, 3, none⟩ = some (.string ⟨#[]⟩) := by simp [World.cell?, y3]
  have y5 : w3.cell? ⟨X + 1, 4, none⟩ = some (.bool false) := by simp [World.cell?, y3]
  have b3 : Below X w w3 := HB2.out.trans (hb3.mono (Nat.le_of_lt (lt_heap HT.out.1)))
  have k3 := heap_set_self (heap_set_self (heap_set_self (heap_set_self (heap_set_self y3 0 (.int .i64 W')) 1 (.int .i64 A')) 2 (.int .i64 L')) 3 (.string D')) 4 (.bool S')
  have o3 := (((((Only.refl (X + 1) w3).set 0 (.int .i64 W')).set 1 (.int .i64 A')).set 2 (.int .i64 L')).set 3 (.string D')).set 4 (.bool S')
  have e0 := f0 0
  have e1 := f0 1
  have e2 := f0 2
  have e3 := f0 3
  have e4 := f0 4
  have HX3 := Lib.hid x3
  have HB3 := Lib.hid b3
  have HK3 := Lib.hid k3
  have HO3 := Lib.hid o3
  clear x3 y3 f0 b3 k3 o3 a0 a1 a2 a3 a4 hb3
  go_upto_region 2 with fail
  generalize ((((w3.setCell ⟨X + 1, 0, none⟩ (.int .i64 W')).setCell ⟨X + 1, 1, none⟩ (.int .i64 A')).setCell ⟨X + 1, 2, none⟩ (.int .i64 L')).setCell ⟨X + 1, 3, none⟩ (.string D')).setCell ⟨X + 1, 4, none⟩ (.bool S') = w4 at *
  have x4 : w4.heap[X]? = some (.cells #[.int .i64 W, .int .i64 A, .int .i64 L, .string D, .bool S] 85) := (HO3.out.block X (lt_heap HX3.out) (by omega)).trans HX3.out
  have y4' : w4.heap[X + 1]? = some (.cells #[.int .i64 W', .int .i64 A', .int .i64 L', .string D', .bool S'] 85) := HK3.out
  have b4 : Below X w w4 := HB3.out.trans (HO3.out.below (by omega) (Nat.le_of_lt (lt_heap HX3.out)))
  clear y0 y1 y2 y4 y5 e0 e1 e2 e3 e4 HK3 HO3 HX3 HB3 cn
  have a0 : w4.cell? ⟨X, 0, none⟩ = some (.int .i64 W) := by simp [World.cell?, x4]
  have a1 : w4.cell? ⟨X, 1, none⟩ = some (.int .i64 A) := by simp [World.cell?, x4]
  have a2 : w4.cell? ⟨X, 2, none⟩ = some (.int .i64 L) := by simp [World.cell?, x4]
  have a3 : w4.cell? ⟨X, 3, none⟩ = some (.string D) := by simp [World.cell?, x4]
  have y0 : w4.cell? ⟨X + 1, 0, none⟩ = some (.int .i64 W') := by simp [World.cell?, y4']
  have y1 : w4.cell? ⟨X + 1, 1, none⟩ = some (.int .i64 A') := by simp [World.cell?, y4']
  have y2 : w4.cell? ⟨X + 1, 2, none⟩ = some (.int .i64 L') := by simp [World.cell?, y4']
  have y3 : w4.cell? ⟨X + 1, 3, none⟩ = some (.string D') := by simp [World.cell?, y4']
  have f0 : ∀ j, w4.frozen? ⟨X + 1, j, none⟩ = false := fun j => by simp [World.frozen?, y4']
  have e0 := f0 0
  have e1 := f0 1
  have e2 := f0 2
  have e3 := f0 3
  have HY := Lib.hid y4'
  have HB := Lib.hid b4
  have HP := Lib.hid (And.intro p1 (And.intro p2 (And.intro p3 p4)))
  clear x4 y4' b4 f0 p1 p2 p3 p4
  go_upto_block 0 with fail
  go_cut [] (fun wx => AskAt X w wx)
  case first =>
    obtain ⟨q1, q2, q3⟩ := HW.out
    obtain ⟨p1, p2, p3, p4⟩ := HP.out
    rcases hUr with rfl | rfl | rfl | rfl | rfl | rfl | rfl | rfl
    · go_wp2_with fail
      go_meet
      exact ⟨_, _, _, _, _, heap_set_self HY.out 1 _, p1, q2, p3, p4, HB.out.setCell (by show X ≤ X + 1; omega) _⟩
    · go_wp2_with fail
      go_meet
      exact ⟨_, _, _, _, _, heap_set_self HY.out 2 _, p1, p2, q3, p4, HB.out.setCell (by show X ≤ X + 1; omega) _⟩
    · go_wp2_with fail
      go_meet
      exact ⟨_, _, _, _, _, heap_set_self HY.out 3 _, p1, p2, p3, HD.out, HB.out.setCell (by show X ≤ X + 1; omega) _⟩
    · go_wp2_with fail
      go_meet
      exact ⟨_, _, _, _, _, heap_set_self HY.out 0 _, q1, p2, p3, p4, HB.out.setCell (by show X ≤ X + 1; omega) _⟩
    · go_wp2_with fail
      go_meet
      exact ⟨_, _, _, _, _, heap_set_self HY.out 1 _, p1, by first | exact wrap_wf _ | exact wrap_wf' _, p3, p4, HB.out.setCell (by show X ≤ X + 1; omega) _⟩
    · go_wp2_with fail
      go_meet
      exact ⟨_, _, _, _, _, heap_set_self HY.out 2 _, p1, p2, by first | exact wrap_wf _ | exact wrap_wf' _, p4, HB.out.setCell (by show X ≤ X + 1; omega) _⟩
    · go_wp2_with fail
      go_meet
      exact ⟨_, _, _, _, _, HY.out, p1, p2, p3, p4, HB.out⟩
    · go_wp2_with fail
      go_meet
      exact ⟨_, _, _, _, _, HY.out, p1, p2, p3, p4, HB.out⟩
  case rest =>
    obtain ⟨V', H', L', D', S', hY, v1, v2, v3, v4, hb⟩ := hcut
    obtain ⟨wz, hwz⟩ : ∃ wz, wz = wc := ⟨_, rfl⟩
    subst hwz
    have HZ := Lib.hid hb
    have d0 : wz.cell? ⟨X + 1, 0, none⟩ = some (.int .i64 V') := by simp [World.cell?, hY]
    have d1 : wz.cell? ⟨X + 1, 1, none⟩ = some (.int .i64 H') := by simp [World.cell?, hY]
    have d2 : wz.cell? ⟨X + 1, 2, none⟩ = some (.int .i64 L') := by simp [World.cell?, hY]
    have d3 : wz.cell? ⟨X + 1, 3, none⟩ = some (.string D') := by simp [World.cell?, hY]
    have d4 : wz.cell? ⟨X + 1, 4, none⟩ = some (.bool S') := by simp [World.cell?, hY]
    have gq : ∀ j, wz.frozen? ⟨X + 1, j, none⟩ = false := fun j => by simp [World.frozen?, hY]
    have FI := Lib.hid (show (((((wz.setCell ⟨X + 1, 0, none⟩ (.int .i64 V')).setCell ⟨X + 1, 1, none⟩ (.int .i64 H')).setCell ⟨X + 1, 2, none⟩ (.int .i64 L')).setCell ⟨X + 1, 3, none⟩ (.string D')).setCell ⟨X + 1, 4, none⟩ (.bool S')).heap[X + 1]? = some (.cells #[.int .i64 V', .int .i64 H', .int .i64 L', .string D', .bool S'] 85) from heap_set_self (heap_set_self (heap_set_self (heap_set_self (heap_set_self hY 0 _) 1 _) 2 _) 3 _) 4 _)
    have FB := Lib.hid (show Below X w (((((wz.setCell ⟨X + 1, 0, none⟩ (.int .i64 V')).setCell ⟨X + 1, 1, none⟩ (.int .i64 H')).setCell ⟨X + 1, 2, none⟩ (.int .i64 L')).setCell ⟨X + 1, 3, none⟩ (.string D')).setCell ⟨X + 1, 4, none⟩ (.bool S')) from by go_grown)
    clear hY e0 e1 e2 e3 y0 y1 y2 y3 a0 a1 a2 a3 hb
    have e0 := gq 0
    have e1 := gq 1
    have e2 := gq 2
    have e3 := gq 3
    have e4 := gq 4
    clear gq
    go_wp2_with fail
    generalize (((((wz.setCell ⟨X + 1, 0, none⟩ (.int .i64 V')).setCell ⟨X + 1, 1, none⟩ (.int .i64 H')).setCell ⟨X + 1, 2, none⟩ (.int .i64 L')).setCell ⟨X + 1, 3, none⟩ (.string D')).setCell ⟨X + 1, 4, none⟩ (.bool S')) = wf at *
    have fi := FI.out
    have s0 : wf.cell? ⟨X + 1, 0, none⟩ = some (.int .i64 V') := by simp [World.cell?, fi]
    have s1 : wf.cell? ⟨X + 1, 1, none⟩ = some (.int .i64 H') := by simp [World.cell?, fi]
    have s2 : wf.cell? ⟨X + 1, 2, none⟩ = some (.int .i64 L') := by simp [World.cell?, fi]
    have s3 : wf.cell? ⟨X + 1, 3, none⟩ = some (.string D') := by simp [World.cell?, fi]
    have s4 : wf.cell? ⟨X + 1, 4, none⟩ = some (.bool S') := by simp [World.cell?, fi]
    clear fi
    refine bodyPost_ret (v := .agg #[.int .i64 V', .int .i64 H', .int .i64 L', .string D', .bool S']) (by simp [results, Try.results38, go_sem, s0, s1, s2, s3, s4]) rfl ?_
    exact ⟨_, _, _, _, _, rfl, v1, v2, v3, v4, by rw [hX]; exact FB.out⟩
end Go.Proofs.Ytjaaddjbmimjoaa
