/-
  The waking call of layer 8; ItemOf.
-/
import Derived.Test.YtoonlhjldkkanaaItemB
namespace Go.Proofs.Ytoonlhjldkkanaa
open Go.RowKit
set_option linter.unusedVariables false
set_option linter.unusedSimpArgs false

theorem itemkey : Try.prog.keyTypeAt 4 24 = true := by kernel_rfl
theorem itemguard : Try.prog.eqGuardType Try.prog.depth 24 = false := by kernel_rfl
theorem item_formed (x : Int) (s : ByteArray) : (Value.agg #[.int .u64 x, .string s]).formed Try.prog 24 = true := by kernel_rfl
theorem item_lits (x : Int) (s : ByteArray) (hx : (Lit.int .u64 x).wf = true) (hs : s.size ≤ maxLen) : Try.prog.keyLits 4 24 [.int .u64 x, .string s] = some [.int .u64 x, .string s.data.toList] := by
  have c1 : Try.prog.cellsOf 24 = 2 := by kernel_rfl
  have c2 : Try.prog.cellsOf 22 = 1 := by kernel_rfl
  have c4 : Try.prog.cellsOf 9 = 1 := by kernel_rfl
  simp [Program.keyLits, Try.underlying24, Try.underlying22, Try.underlying9, c1, c2, c4, hx, hs]
theorem item_same (x : Int) (s : ByteArray) (w : World) (hx : (Lit.int .u64 x).wf = true) (hs : s.size ≤ maxLen) :
    (binOp .eql 24 (.agg #[.int .u64 x, .string s]) (.agg #[.int .u64 x, .string s])).run Try.prog w = .ok (.bool true) w :=
  (eq_deep (m := 4) (D := 4) (D' := 4) itemkey (by decide) (item_formed x s) (item_formed x s) (item_lits x s hx hs) (item_lits x s hx hs) true (by simp) w).1
theorem block_empty (w : World) : Calls Try.prog 63 #[.string ⟨#[]⟩] w fun e w' => e = .returned (.string (zeroL 32)) ∧ Below w.heap.size w w' :=
  (block_any ⟨#[]⟩ w (by decide)).mono fun e w' h => by
    obtain ⟨T, he, _, hT, hb⟩ := h
    rw [hT rfl] at he
    exact ⟨he, hb⟩
set_option maxHeartbeats 1600000 in
set_option maxRecDepth 100000 in
theorem awake08 (w : World) : Calls Try.prog 19 #[] w fun e w' => e = .returned (.bool true) ∧ Below w.heap.size w w' := by
  have cb := fun w => block_empty w
  have co := fun w => iof_zero 7 w
  have cy := fun w => ibytes_none 7 w
  have cm := fun w => imay_none 7 w
  have hs := fun w => item_same 7 ⟨#[]⟩ w (by decide) (by decide)
  have hg := itemguard
  obtain ⟨Z, hZ⟩ : ∃ Z, zeroL 32 = Z := ⟨_, rfl⟩
  rw [hZ] at co cy cb
  unfold itemA at *
  go_enter Try.func19, Try.ntmps19
  go_wp2_with fail
  refine Calls.mono (cb _) ?_
  rintro e w2 ⟨rfl, hb2⟩
  go_wp2_with fail
  refine Calls.mono (co _) ?_
  rintro e w3 ⟨rfl, hb3⟩
  have hb := below_trans hb2 hb3 hb2.size
  have hx := heap_alloc_self w3 (.cells #[.int .u64 7, .string ⟨#[]⟩] 24)
  have hb4 : Below w.heap.size w (w3.alloc (.cells #[.int .u64 7, .string ⟨#[]⟩] 24)) := hb.alloc hb.size _
  have hle := hb.size
  go_upto_region 2 with fail
  generalize w3.alloc (.cells #[.int .u64 7, .string ⟨#[]⟩] 24) = w4 at *
  obtain ⟨X, hX⟩ : ∃ X, w3.heap.size = X := ⟨_, rfl⟩
  rw [hX] at hx hle
  try rw [hX]
  have d0 : w4.cell? ⟨X, 0, none⟩ = some (.int .u64 7) := by simp [World.cell?, hx]
  have d1 : w4.cell? ⟨X, 1, none⟩ = some (.string ⟨#[]⟩) := by simp [World.cell?, hx]
  have HX := Lib.hid hx
  have HB := Lib.hid hb4
  clear hx hb4 hb hb2 hb3 co hX
  go_wp2_with fail
  refine Calls.mono (cy _) ?_
  rintro e w5 ⟨rfl, hb5⟩
  have HB5 := Lib.hid hb5
  clear hb5 cy
  go_wp2_with fail
  refine Calls.mono (cb _) ?_
  rintro e w6 ⟨rfl, hb6⟩
  have HB6 := Lib.hid (below_trans HB5.out hb6 HB5.out.size)
  have y := below_at HB6.out (lt_heap HX.out) HX.out
  have q0 : w6.cell? ⟨X, 0, none⟩ = some (.int .u64 7) := by simp [World.cell?, y]
  have q1 : w6.cell? ⟨X, 1, none⟩ = some (.string ⟨#[]⟩) := by simp [World.cell?, y]
  clear d0 d1 y hb6 cb
  go_wp2_with fail
  refine Calls.mono (cm _) ?_
  rintro e w7 ⟨rfl, hb7⟩
  have FB := Lib.hid (HB.out.trans ((below_trans HB6.out hb7 HB6.out.size).mono (Nat.le_trans hle (Nat.le_of_lt (lt_heap HX.out)))))
  go_wp2_with fail
  go_ret
  exact ⟨rfl, FB.out⟩
end Go.Proofs.Ytoonlhjldkkanaa
