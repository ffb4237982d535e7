/-
  The waking call of layer 8; ItemOf.
-/
import Derived.Test.YtcoliadgnbhkaaaItemB
namespace Go.Proofs.Ytcoliadgnbhkaaa
open Go.RowKit
set_option linter.unusedVariables false
set_option linter.unusedSimpArgs false

theorem itemkey : Try.prog.keyTypeAt 4 71 = true := by kernel_rfl
theorem itemguard : Try.prog.eqGuardType Try.prog.depth 71 = false := by kernel_rfl
theorem item_formed (x : Int) (s : ByteArray) : (Value.agg #[.int .u64 x, .string s]).formed Try.prog 71 = true := by kernel_rfl
theorem item_lits (x : Int) (s : ByteArray) (hx : (Lit.int .u64 x).wf = true) (hs : s.size ≤ maxLen) : Try.prog.keyLits 4 71 [.int .u64 x, .string s] = some [.int .u64 x, .string s.data.toList] := by
  have c1 : Try.prog.cellsOf 71 = 2 := by kernel_rfl
  have c2 : Try.prog.cellsOf 32 = 1 := by kernel_rfl
  have c4 : Try.prog.cellsOf 9 = 1 := by kernel_rfl
  simp [Program.keyLits, Try.underlying71, Try.underlying32, Try.underlying9, c1, c2, c4, hx, hs]
theorem item_same (x : Int) (s : ByteArray) (w : World) (hx : (Lit.int .u64 x).wf = true) (hs : s.size ≤ maxLen) :
    (binOp .eql 71 (.agg #[.int .u64 x, .string s]) (.agg #[.int .u64 x, .string s])).run Try.prog w = .ok (.bool true) w :=
  (eq_deep (m := 4) (D := 4) (D' := 4) itemkey (by decide) (item_formed x s) (item_formed x s) (item_lits x s hx hs) (item_lits x s hx hs) true (by simp) w).1
theorem block_empty (w : World) : Calls Try.prog 36 #[.string ⟨#[]⟩] w fun e w' => e = .returned (.string (zeroL 32)) ∧ Below w.heap.size w w' :=
  (block_any ⟨#[]⟩ w (by decide)).mono fun e w' h => by
    obtain ⟨T, he, _, hT, hb⟩ := h
    rw [hT rfl] at he
    exact ⟨he, hb⟩
set_option maxHeartbeats 1600000 in
set_option maxRecDepth 100000 in
theorem awake08 (w : World) : Calls Try.prog 38 #[] w fun e w' => e = .returned (.bool true) ∧ Below w.heap.size w w' := by
  have cb := fun w => block_empty w
  have co := fun w => iof_zero 7 w
  have cy := fun w => ibytes_none 7 w
  have cm := fun w => imay_none 7 w
  have hs := fun w => item_same 7 ⟨#[]⟩ w (by decide) (by decide)
  have hg := itemguard
  obtain ⟨Z, hZ⟩ : ∃ Z, zeroL 32 = Z := ⟨_, rfl⟩
  rw [hZ] at co cy cb
  unfold itemA at *
  go_enter Try.func38, Try.ntmps38
  go_wp2_with fail
  refine Calls.mono (cb _) ?_
  rintro e w2 ⟨rfl, hb2⟩
  go_wp2_with fail
  refine Calls.mono (co _) ?_
  rintro e w3 ⟨rfl, hb3⟩
  have hb := below_trans hb2 hb3 hb2.size
  have hx := heap_alloc_self w3 (.cells #[.int .u64 7, .string ⟨#[]⟩] 71)
  have hb4 : Below w.heap.size w (w3.alloc (.cells #[.int .u64 7, .string ⟨#[]⟩] 71)) := hb.alloc hb.size _
  have hle := hb.size
  go_upto_region 2 with fail
  generalize w3.alloc (.cells #[.int .u64 7, .string ⟨#[]⟩] 71) = w4 at *
  obtain ⟨X, hX⟩ : ∃ X, w3.heap.size = X := ⟨_, rfl⟩
  rw [hX] at hx hle
  try rw [hX]
  have d0 : w4.cell? ⟨X, 0, none⟩ = some (.int .u64 7) := by simp [World.cell?, hx]
  have d1 : w4.cell? ⟨X, 1, none⟩ = some (.string ⟨#[]⟩) := by simp [World.cell?, hx]
  have HX := Lib.hid hx
  have HB := Lib.hid hb4
  clear hx hb4 hb hb2 hb3 co hX
  go_wp2_with fail
  refine Calls.mono (cy _) ?_
  rintro e w5 ⟨rfl, hb5⟩
  have HB5 := Lib.hid hb5
  clear hb5 cy
  go_wp2_with fail
  refine Calls.mono (cb _) ?_
  rintro e w6 ⟨rfl, hb6⟩
  have HB6 := Lib.hid (below_trans HB5.out hb6 HB5.out.size)
  have y := below_at HB6.out (lt_heap HX.out) HX.out
  have q0 : w6.cell? ⟨X, 0, none⟩ = some (.int .u64 7) := by simp [World.cell?, y]
  have q1 : w6.cell? ⟨X, 1, none⟩ = some (.string ⟨#[]⟩) := by simp [World.cell?, y]
  clear d0 d1 y hb6 cb
  go_wp2_with fail
  refine Calls.mono (cm _) ?_
  rintro e w7 ⟨rfl, hb7⟩
  have FB := Lib.hid (HB.out.trans ((below_trans HB6.out hb7 HB6.out.size).mono (Nat.le_trans hle (Nat.le_of_lt (lt_heap HX.out)))))
  go_wp2_with fail
  go_ret
  exact ⟨rfl, FB.out⟩
set_option maxHeartbeats 6400000 in
set_option maxRecDepth 100000 in
theorem itemof_law (v : Int) (s : ByteArray) (odd : Bool) (w : World) (hv : (Lit.int .u64 v).wf = true) (hs : s.size ≤ maxLen) :
    Calls Try.prog 12 #[.int .u64 v, .string s, .bool odd] w fun e w' => e = .returned (.bool true) ∧ Below w.heap.size w w' := by
  have hm0 : 0 ≤ min (s.size : Int) 40 := by omega
  obtain ⟨t, ht⟩ : ∃ t, min (s.size : Int) 40 = t := ⟨_, rfl⟩
  have ht1 : t ≤ 40 := by omega
  have ht2 : t ≤ (s.size : Int) := by omega
  have ht0 : 0 ≤ t := by omega
  obtain ⟨E, hE⟩ : ∃ E : ByteArray, s.extract 0 t.toNat = E := ⟨_, rfl⟩
  have hEs : E.size ≤ maxLen := by rw [← hE, ByteArray.size_extract]; unfold maxLen at *; omega
  have cb := fun w => block_any E w hEs
  unfold maxLen at hs
  go_enter Try.func12, Try.ntmps12
  go_wp2_with fail
  refine Calls.mono (cb _) ?_
  rintro e w2 ⟨T, rfl, hT, hT0, hb2⟩
  have HB2 := Lib.hid hb2
  clear hb2 cb
  go_upto_if 16 with fail
  go_cut [7] (fun v wx => ∃ b : ByteArray, v = .string b ∧ b.size ≤ 40 ∧ wx = w2)
  case first =>
    cases odd
    · go_wp2_with fail
      go_meet
      exact ⟨T, rfl, by omega, rfl⟩
    · go_wp2_with fail
      go_meet
      exact ⟨E, rfl, by rw [← hE, ByteArray.size_extract]; omega, rfl⟩
  case rest =>
    obtain ⟨b, rfl, hbs, rfl⟩ := hcut
    clear hT hT0 hE hEs ht ht0 ht1 ht2 hm0
    have hg := itemguard
    by_cases h32 : b.size = 32
    · have h1 : ((b.size : Int) == 32) = true := by simp [h32]
      have h1n : ((b.size : Int) != 32) = false := by simp [h32]
      by_cases hz : b = zeroL 32
      · subst hz
        have co := fun w => iof_zero v w
        have cm := fun w => imay_none v w
        have cy := fun w => ibytes_none v w
        have cn := fun w => inewer v (v / 2) ⟨#[]⟩ ⟨#[]⟩ w
        obtain ⟨Z, hZ⟩ : ∃ Z, zeroL 32 = Z := ⟨_, rfl⟩
        rw [hZ] at co cy h32 h1 h1n hbs
        try rw [hZ]
        unfold itemA at *
        go_wp2_with fail
        refine Calls.mono (co _) ?_
        rintro e w3 ⟨rfl, hb3⟩
        have hb := below_trans HB2.out hb3 HB2.out.size
        have hx := heap_alloc_self w3 (.cells #[.int .u64 v, .string ⟨#[]⟩] 71)
        have hb4 : Below w.heap.size w (w3.alloc (.cells #[.int .u64 v, .string ⟨#[]⟩] 71)) := hb.alloc hb.size _
        have hle := hb.size
        go_upto_region 7 with fail
        generalize w3.alloc (.cells #[.int .u64 v, .string ⟨#[]⟩] 71) = w4 at *
        obtain ⟨X, hX⟩ : ∃ X, w3.heap.size = X := ⟨_, rfl⟩
        rw [hX] at hx hle
        try rw [hX]
        have HX := Lib.hid hx
        have HB := Lib.hid hb4
        clear hx hb4 hb hb3 co hX
        go_wp2_with fail
        refine Calls.mono (awake08 _) ?_
        rintro e w5 ⟨rfl, hb5⟩
        have HB5 := Lib.hid hb5
        have y := below_at HB5.out (lt_heap HX.out) HX.out
        have d0 : w5.cell? ⟨X, 0, none⟩ = some (.int .u64 v) := by simp [World.cell?, y]
        have d1 : w5.cell? ⟨X, 1, none⟩ = some (.string ⟨#[]⟩) := by simp [World.cell?, y]
        clear hb5 y
        go_wp2_with fail
        refine Calls.mono (cm _) ?_
        rintro e w6 ⟨rfl, hb6⟩
        have HB6 := Lib.hid (below_trans HB5.out hb6 HB5.out.size)
        have y := below_at HB6.out (lt_heap HX.out) HX.out
        have d0 : w6.cell? ⟨X, 0, none⟩ = some (.int .u64 v) := by simp [World.cell?, y]
        have d1 : w6.cell? ⟨X, 1, none⟩ = some (.string ⟨#[]⟩) := by simp [World.cell?, y]
        clear hb6 y cm HB5
        go_wp2_with fail
        refine Calls.mono (cy _) ?_
        rintro e w7 ⟨rfl, hb7⟩
        have HB7 := Lib.hid (below_trans HB6.out hb7 HB6.out.size)
        have y := below_at HB7.out (lt_heap HX.out) HX.out
        have d0 : w7.cell? ⟨X, 0, none⟩ = some (.int .u64 v) := by simp [World.cell?, y]
        have d1 : w7.cell? ⟨X, 1, none⟩ = some (.string ⟨#[]⟩) := by simp [World.cell?, y]
        clear hb7 y cy HB6
        go_wp2_with fail
        refine Calls.mono (cn _) ?_
        rintro e w8 ⟨rfl, hb8⟩
        have FB := Lib.hid (HB.out.trans ((below_trans HB7.out hb8 HB7.out.size).mono (Nat.le_trans hle (Nat.le_of_lt (lt_heap HX.out)))))
        clear hb8
        go_wp2_with fail
        go_ret
        exact ⟨ret_bool (by simp), FB.out⟩
      · have co := fun w => iof_some v b w h32 hz
        have cm := fun w => imay_some v b w h32 hz
        have hne : b ≠ ⟨#[]⟩ := fun h => by rw [h] at h32; cases h32
        have cy := fun w => ibytes_some v b w hne
        have cn := fun w => inewer v (v / 2) b ⟨#[]⟩ w
        unfold itemA at *
        clear hz hne
        go_wp2_with fail
        refine Calls.mono (co _) ?_
        rintro e w3 ⟨rfl, hb3⟩
        have hb := below_trans HB2.out hb3 HB2.out.size
        have hx := heap_alloc_self w3 (.cells #[.int .u64 v, .string b] 71)
        have hb4 : Below w.heap.size w (w3.alloc (.cells #[.int .u64 v, .string b] 71)) := hb.alloc hb.size _
        have hle := hb.size
        go_upto_region 7 with fail
        generalize w3.alloc (.cells #[.int .u64 v, .string b] 71) = w4 at *
        obtain ⟨X, hX⟩ : ∃ X, w3.heap.size = X := ⟨_, rfl⟩
        rw [hX] at hx hle
        try rw [hX]
        have HX := Lib.hid hx
        have HB := Lib.hid hb4
        clear hx hb4 hb hb3 co hX
        go_wp2_with fail
        refine Calls.mono (awake08 _) ?_
        rintro e w5 ⟨rfl, hb5⟩
        have HB5 := Lib.hid hb5
        have y := below_at HB5.out (lt_heap HX.out) HX.out
        have d0 : w5.cell? ⟨X, 0, none⟩ = some (.int .u64 v) := by simp [World.cell?, y]
        have d1 : w5.cell? ⟨X, 1, none⟩ = some (.string b) := by simp [World.cell?, y]
        clear hb5 y
        go_wp2_with fail
        refine Calls.mono (cm _) ?_
        rintro e w6 ⟨rfl, hb6⟩
        have HB6 := Lib.hid (below_trans HB5.out hb6 HB5.out.size)
        have y := below_at HB6.out (lt_heap HX.out) HX.out
        have d0 : w6.cell? ⟨X, 0, none⟩ = some (.int .u64 v) := by simp [World.cell?, y]
        have d1 : w6.cell? ⟨X, 1, none⟩ = some (.string b) := by simp [World.cell?, y]
        clear hb6 y cm HB5
        go_wp2_with fail
        refine Calls.mono (cy _) ?_
        rintro e w7 ⟨rfl, hb7⟩
        have HB7 := Lib.hid (below_trans HB6.out hb7 HB6.out.size)
        have y := below_at HB7.out (lt_heap HX.out) HX.out
        have d0 : w7.cell? ⟨X, 0, none⟩ = some (.int .u64 v) := by simp [World.cell?, y]
        have d1 : w7.cell? ⟨X, 1, none⟩ = some (.string b) := by simp [World.cell?, y]
        clear hb7 y cy HB6
        go_wp2_with fail
        refine Calls.mono (cn _) ?_
        rintro e w8 ⟨rfl, hb8⟩
        have FB := Lib.hid (HB.out.trans ((below_trans HB7.out hb8 HB7.out.size).mono (Nat.le_trans hle (Nat.le_of_lt (lt_heap HX.out)))))
        clear hb8
        go_wp2_with fail
        go_ret
        exact ⟨ret_bool (by simp), FB.out⟩
    · have h1 : ((b.size : Int) == 32) = false := by simpa using fun h : (b.size : Int) = 32 => h32 (by omega)
      have h1n : ((b.size : Int) != 32) = true := by simp [bne, h1]
      have co := fun w => iof_bad v b w h32
      have hse := fun w => item_same 0 ⟨#[]⟩ w (by decide) (by decide)
      unfold itemA at *
      go_wp2_with fail
      refine Calls.mono (co _) ?_
      rintro e w3 ⟨rfl, hb3⟩
      have hb := below_trans HB2.out hb3 HB2.out.size
      have hx := heap_alloc_self w3 (.cells #[.int .u64 0, .string ⟨#[]⟩] 71)
      have hb4 : Below w.heap.size w (w3.alloc (.cells #[.int .u64 0, .string ⟨#[]⟩] 71)) := hb.alloc hb.size _
      have hle := hb.size
      go_upto_region 6 with fail
      generalize w3.alloc (.cells #[.int .u64 0, .string ⟨#[]⟩] 71) = w4 at *
      obtain ⟨X, hX⟩ : ∃ X, w3.heap.size = X := ⟨_, rfl⟩
      rw [hX] at hx hle
      try rw [hX]
      have HX := Lib.hid hx
      have HB := Lib.hid hb4
      clear hx hb4 hb hb3 co hX
      go_wp2_with fail
      refine Calls.mono (awake08 _) ?_
      rintro e w5 ⟨rfl, hb5⟩
      have y := below_at hb5 (lt_heap HX.out) HX.out
      have d0 : w5.cell? ⟨X, 0, none⟩ = some (.int .u64 0) := by simp [World.cell?, y]
      have d1 : w5.cell? ⟨X, 1, none⟩ = some (.string ⟨#[]⟩) := by simp [World.cell?, y]
      have FB := Lib.hid (HB.out.trans (hb5.mono (Nat.le_trans hle (Nat.le_of_lt (lt_heap HX.out)))))
      clear hb5 y
      go_wp2_with fail
      go_ret
      exact ⟨rfl, FB.out⟩
end Go.Proofs.Ytcoliadgnbhkaaa
