/-
  AreaMay.
-/
import Derived.Test.YtcoliadgnbhkaaaAreaE
import Derived.Test.YtcoliadgnbhkaaaFits
namespace Go.Proofs.Ytcoliadgnbhkaaa
open Go.RowKit
set_option linter.unusedVariables false
set_option linter.unusedSimpArgs false

theorem fits_area {w : World} {c : Array Value} (h : Fits w (.two (.int .i64) (.two (.int .i64) .unit)) c.toList) : ∃ f l : Int, c = #[.int .i64 f, .int .i64 l] ∧ (Lit.int .i64 f).wf = true ∧ (Lit.int .i64 l).wf = true := by
  obtain ⟨x, y, e, ⟨a, rfl, ha⟩, x2, y2, rfl, ⟨b, rfl, hb⟩, rfl⟩ := h
  exact ⟨a, b, by cases c; simp_all, ha, hb⟩
theorem within_may {f l at' n : Int} (h : withinA f l at' n = true) : mayA f l = true ∧ 0 ≤ at' ∧ 0 ≤ n := by
  unfold withinA at h
  simp only [Bool.and_eq_true, decide_eq_true_eq] at h
  exact ⟨h.1.1.1.1, h.1.1.1.2, h.1.1.2⟩
/-- whatever is read of a new disk of three sectors -/
def RSome (f l n : Int) (w : World) (e : Ending) (w' : World) : Prop := ∃ (r : Int) (s : ByteArray), e = .returned (.tuple #[.string s, .int .i64 r]) ∧ (r = 0 → (s.size : Int) = n) ∧ (mayA f l = false → r = 1 ∧ s = ⟨#[]⟩) ∧ (r = 0 ∨ r = 1) ∧ Below w.heap.size w w'
theorem read_some (f l at' n : Int) (w : World) (N p : Nat) (sv : Value) (hd : Dsk w N p sv (.slice none 0 0) (freshS 3) []) (hat : -9223372036854775808 ≤ at' ∧ at' ≤ 9223372036854775807) :
    Calls Try.prog 32 #[.pointer (some ⟨p, 0, none⟩), areaV f l, .int .i64 at', .int .i64 n] w (RSome f l n w) := by
  by_cases h : withinA f l at' n = true
  · obtain ⟨hm, g1, g2⟩ := within_may h
    obtain ⟨h1, h2, h3, h4⟩ := (mayA_iff f l).1 hm
    obtain ⟨F, rfl⟩ : ∃ F : Nat, f = F := ⟨f.toNat, by omega⟩
    obtain ⟨K, rfl⟩ : ∃ K : Nat, l = K := ⟨l.toNat, by omega⟩
    obtain ⟨A, rfl⟩ : ∃ A : Nat, at' = A := ⟨at'.toNat, by omega⟩
    obtain ⟨M, rfl⟩ : ∃ M : Nat, n = M := ⟨n.toNat, by omega⟩
    refine (aread F K A M w N p sv _ _ _ hd (by simp) h).mono ?_
    rintro e w' ⟨r, l, rfl, hg, hn, hr, hb⟩
    refine ⟨r, _, rfl, fun h0 => ?_, fun h0 => (by rw [hm] at h0; cases h0), (by by_cases h : r = 0; exact .inl h; exact .inr (hn h).1), hb⟩
    have := (hg h0).1
    show ((l.length : Nat) : Int) = _
    rw [this]
  · have h' : withinA f l at' n = false := by simpa using h
    refine (aread_bad _ f l at' n w hat h').mono ?_
    rintro e w' ⟨rfl, hb⟩
    exact ⟨1, _, rfl, fun h => (by omega), fun _ => ⟨rfl, rfl⟩, .inr rfl, hb⟩
def WSome (f l : Int) (N : Nat) (w : World) (e : Ending) (w' : World) : Prop := ∃ r : Int, e = .returned (.int .i64 r) ∧ (mayA f l = false → r = 1) ∧ Below N w w'
theorem write_some (f l at' : Int) (w : World) (N p : Nat) (sv : Value) (hd : Dsk w N p sv (.slice none 0 0) (freshS 3) []) (hat : -9223372036854775808 ≤ at' ∧ at' ≤ 9223372036854775807) :
    Calls Try.prog 31 #[.pointer (some ⟨p, 0, none⟩), areaV f l, .int .i64 at', .string ⟨#[120]⟩] w (WSome f l N w) := by
  by_cases h : withinA f l at' (⟨#[120]⟩ : ByteArray).size = true
  · obtain ⟨hm, g1, g2⟩ := within_may h
    obtain ⟨h1, h2, h3, h4⟩ := (mayA_iff f l).1 hm
    obtain ⟨F, rfl⟩ : ∃ F : Nat, f = F := ⟨f.toNat, by omega⟩
    obtain ⟨K, rfl⟩ : ∃ K : Nat, l = K := ⟨l.toNat, by omega⟩
    obtain ⟨A, rfl⟩ : ∃ A : Nat, at' = A := ⟨at'.toNat, by omega⟩
    refine (awrite F K A ⟨#[120]⟩ w N p sv _ _ _ hd (by decide) h).mono ?_
    rintro e w' ⟨r, k, rfl, _, hw⟩
    obtain ⟨lv2, L2, h1, h2, h3⟩ := hw.ex
    exact ⟨r, rfl, fun h0 => (by rw [hm] at h0; cases h0), h3.below⟩
  · have h' : withinA f l at' (⟨#[120]⟩ : ByteArray).size = false := by simpa using h
    refine (awrite_bad _ f l at' ⟨#[120]⟩ w (by decide) hat h').mono ?_
    rintro e w' ⟨rfl, hb⟩
    exact ⟨1, rfl, fun _ => rfl, hb.mono hd.le⟩
set_option maxHeartbeats 6400000 in
set_option maxRecDepth 100000 in
theorem areamay_law (c : Array Value) (at' n : Int) (w : World) (hc : Fits w (.two (.int .i64) (.two (.int .i64) .unit)) c.toList) (hat : (Lit.int .i64 at').wf = true) (hn : (Lit.int .i64 n).wf = true) :
    Calls Try.prog 11 #[.agg c, .int .i64 at', .int .i64 n] w fun e w' => e = .returned (.bool true) ∧ Below w.heap.size w w' := by
  obtain ⟨f, l, rfl, hf, hl⟩ := fits_area hc
  have hab := wf_le hat
  have ca := fun w => awake06 w
  have cm := fun w => amay f l w
  have cb := fun w => abytes f l w
  have hx := heap_alloc_self w (.cells #[.int .i64 f, .int .i64 l] 63)
  have hba : Below w.heap.size w (w.alloc (.cells #[.int .i64 f, .int .i64 l] 63)) := (Below.refl _ _).alloc (Nat.le_refl _) _
  have hbl : mayA f l = true → (bytesA f l = 64 * l ∧ 1 ≤ l ∧ l ≤ 4096) := fun h => ⟨by unfold bytesA; rw [if_pos h], ((mayA_iff f l).1 h).2.2⟩
  have hb0 : mayA f l = false → bytesA f l = 0 := fun h => by unfold bytesA; rw [if_neg (by rw [h]; simp)]
  have HBL := Lib.hid (And.intro hbl hb0)
  clear hc hat hn hf hl hbl hb0
  go_enter Try.func11, Try.ntmps11
  go_upto_region 1 with fail
  generalize w.alloc (.cells #[.int .i64 f, .int .i64 l] 63) = w0 at *
  obtain ⟨q, hq⟩ : ∃ q, w.heap.size = q := ⟨_, rfl⟩
  rw [hq] at hx hba
  try rw [hq]
  have HX0 := Lib.hid hx
  have HBA := Lib.hid hba
  have HQ := Lib.hid hq
  have hqw := lt_heap hx
  have cells : ∀ w', Below w0.heap.size w0 w' → w'.cell? ⟨q, 0, none⟩ = some (.int .i64 f) ∧ w'.cell? ⟨q, 1, none⟩ = some (.int .i64 l) := by
    intro w' hb
    have h := (hb.block q hqw).trans HX0.out
    exact ⟨by simp [World.cell?, h], by simp [World.cell?, h]⟩
  have CE := Lib.hid cells
  obtain ⟨c0, c1⟩ := cells w0 (Below.refl _ _)
  have cn := dnew 3 w0 (by omega) (by omega)
  clear hx hba hq cells
  go_cut [7] (fun b wx => b = .bool (mayA f l) ∧ wx = w0)
  case first =>
    by_cases h1 : 0 ≤ f
    · by_cases h2 : f ≤ 4096
      · by_cases h3 : 1 ≤ l
        · go_wp2_with fail
          go_meet
          exact ⟨by simp [mayA, h1, h2, h3], rfl⟩
        · go_wp2_with fail
          go_meet
          exact ⟨by first | (simp [mayA, h1, h2, h3]; done) | (simp [mayA, h1, h2, h3]; omega), rfl⟩
      · go_wp2_with fail
        go_meet
        exact ⟨by first | (simp [mayA, h1, h2]; done) | (simp [mayA, h1, h2]; omega), rfl⟩
    · go_wp2_with fail
      go_meet
      exact ⟨by first | (simp [mayA, h1]; done) | (simp [mayA, h1]; omega), rfl⟩
  case rest =>
    obtain ⟨rfl, rfl⟩ := hcut
    obtain ⟨W0, hW0⟩ : ∃ W0, W0 = wc := ⟨_, rfl⟩
    subst hW0
    go_wp2_with fail
    refine Calls.mono cn ?_
    rintro e w1 ⟨p, sv, rfl, hd, hb⟩
    have HB := Lib.hid hb
    have HD := Lib.hid hd
    have cr := read_some f l at' n w1 _ _ _ hd hab
    obtain ⟨d0, d1⟩ := CE.out w1 hb
    unfold areaV at *
    clear hd hb cn c0 c1
    go_wp2_with fail
    refine Calls.mono cr ?_
    rintro e w2 ⟨r, s, rfl, hr0, hr1, hr01, hb⟩
    have HR01 := Lib.hid hr01
    clear hr01
    have HB2 := Lib.hid (below_trans HB.out hb HB.out.size)
    have cw := write_some f l at' w2 _ _ _ (HD.out.below hb) hab
    have HR0 := Lib.hid hr0
    have HR1 := Lib.hid hr1
    obtain ⟨e0, e1⟩ := CE.out w2 HB2.out
    unfold areaV at *
    clear hb cr hr0 hr1 d0 d1 HB HD
    go_wp2_with fail
    refine Calls.mono cw ?_
    rintro e w3 ⟨r2, rfl, hr2, hb⟩
    have HB3 := Lib.hid (HB2.out.trans hb)
    have HR2 := Lib.hid hr2
    obtain ⟨c0, c1⟩ := CE.out w3 HB3.out
    clear hb cw hr2 e0 e1 HB2
    obtain ⟨B, hB⟩ : ∃ B, mayA f l = B := ⟨_, rfl⟩
    cases B
    · have h1 := HBL.out.2 hB
      obtain ⟨rfl, rfl⟩ := HR1.out hB
      obtain rfl := HR2.out hB
      simp only [h1] at cb
      simp only [hB] at cm
      rw [hB]
      clear h1 HR0 HR1 HR2 HBL hB
      go_wp2_with fail
      refine Calls.mono (ca _) ?_
      rintro e w4 ⟨rfl, hb⟩
      have HB4 := Lib.hid (below_trans HB3.out hb HB3.out.size)
      clear c0 c1
      obtain ⟨c0, c1⟩ := CE.out w4 HB4.out
      clear hb
      go_wp2_with fail
      refine Calls.mono (cm _) ?_
      rintro e w5 ⟨rfl, hb⟩
      have HB5 := Lib.hid (below_trans HB4.out hb HB4.out.size)
      clear c0 c1
      obtain ⟨c0, c1⟩ := CE.out w5 HB5.out
      clear hb
      go_wp2_with fail
      refine Calls.mono (cb _) ?_
      rintro e w6 ⟨rfl, hb⟩
      have HB6 := Lib.hid (below_trans HB5.out hb HB5.out.size)
      clear hb
      go_wp2_with fail
      go_ret
      exact ⟨ret_bool (by simp), by rw [HQ.out]; exact HBA.out.trans (HB6.out.mono (by omega))⟩
    · obtain ⟨h1, h2, h3⟩ := HBL.out.1 hB
      simp only [h1] at cb
      simp only [hB] at cm
      rw [hB]
      have k1 : IntKind.i64.wrap (64 * l) = 64 * l := by rw [IntKind.wrap_i64]; omega
      have hqN : q < w3.heap.size := Nat.lt_of_lt_of_le hqw HB3.out.size
      clear h1 HR1 HR2 HBL hB
      obtain ⟨N, hN⟩ : ∃ N, w3.heap.size = N := ⟨_, rfl⟩
      rw [hN] at hqN
      have HN := Lib.hid hN
      have c1a : ∀ w' : World, N ≤ w'.heap.size → Calls Try.prog 33 #[] w' fun e w'' => e = .returned (.bool true) ∧ Stays N w' w'' := fun w' hN => (ca w').mono fun e w'' h => ⟨h.1, stays_of hN h.2⟩
      have c1b : ∀ w' : World, N ≤ w'.heap.size → Calls Try.prog 34 #[.agg #[.int .i64 f, .int .i64 l]] w' fun e w'' => e = .returned (.bool true) ∧ Stays N w' w'' := fun w' hN => (cm w').mono fun e w'' h => ⟨h.1, stays_of hN h.2⟩
      have c1c : ∀ w' : World, N ≤ w'.heap.size → Calls Try.prog 35 #[.agg #[.int .i64 f, .int .i64 l]] w' fun e w'' => e = .returned (.int .i64 (64 * l)) ∧ Stays N w' w'' := fun w' hN => (cb w').mono fun e w'' h => ⟨h.1, stays_of hN h.2⟩
      clear hN ca cm cb
      by_cases hr : r = 0
      · subst hr
        have hsn : ((s.size : Int) == n) = true := by have := HR0.out rfl; simp [this]
        clear HR0
        go_upto_region 7 with fail
        go_region_held3 (fun w' => N ≤ w'.heap.size ∧ Below N w3 w' ∧ ∀ b o, b < N → w'.cell? ⟨b, o, none⟩ = w3.cell? ⟨b, o, none⟩) (first | assumption | exact keeps_start HN.out | exact keeps_next (by assumption) (by assumption)) (first | (go_at_call 33; refine Calls.mono (c1a _ (And.left (by assumption))) ?_; rintro e wz ⟨rfl, hz⟩) | (go_at_call 34; refine Calls.mono (c1b _ (And.left (by assumption))) ?_; rintro e wz ⟨rfl, hz⟩) | (go_at_call 35; refine Calls.mono (c1c _ (And.left (by assumption))) ?_; rintro e wz ⟨rfl, hz⟩))
        all_goals
          go_wp2_with fail
          go_ret
          have hh := And.left (And.right (by assumption : N ≤ wz.heap.size ∧ Below N w3 wz ∧ ∀ (b o : Nat), b < N → wz.cell? ⟨b, o, none⟩ = w3.cell? ⟨b, o, none⟩))
          exact ⟨ret_bool (by simp), by rw [HQ.out]; exact HBA.out.trans ((HB3.out.trans (hh.mono (by have := HB3.out.size; have := HN.out; omega))).mono (by omega))⟩
      · obtain rfl := HR01.out.resolve_left hr
        clear HR0 hr HR01
        go_upto_region 7 with fail
        refine wp_region_held_drew (S := fun w' => N ≤ w'.heap.size ∧ Below N w3 w' ∧ ∀ b o, b < N → w'.cell? ⟨b, o, none⟩ = w3.cell? ⟨b, o, none⟩) (by kernel_rfl) (keeps_start HN.out) (fun hHeld => ?_)
        refine wpAnyH_ready (rs := [0]) (by kernel_rfl) (by simp) ?_
        refine AllReadyH.cons (o := { dst := some 80, op := Go.Op.call { callee := Go.Callee.value (Go.Operand.func 33), args := #[], argTypes := #[] }, type := 4, pos := "law.go:80", after := #[], guard := none }) rfl (fun K hK => ?_) AllReadyH.nil
        go_simp
        go_at_call 33
        refine Calls.mono (c1a _ (And.left hHeld)) ?_
        rintro e wx ⟨rfl, hz⟩
        try simp only []
        refine hK.out _ _ (keeps_next hHeld hz) (fun hHeld2 => ?_)
        clear hK K hz hHeld
        have hHeld := hHeld2
        clear hHeld2
        try simp only [Act.put, List.setIfInBounds_toArray, List.set_cons_zero, List.set_cons_succ]
        refine wpAnyH_take (i := 1) (oi := { dst := some 81, op := Go.Op.move (Go.Operand.tmp 80), type := 4, pos := "law.go:80", after := #[{ on := 0, ground := Go.Ground.data }, { on := 0, ground := Go.Ground.chain }], guard := none }) (v := ?v1) rfl (by kernel_rfl) (by kernel_rfl) (by kernel_rfl) (fun _ _ _ h => h) (Or.inl ⟨by rfl, ?y1⟩) (by assumption) ?r1
        case y1 => (intro w hSw; (try dsimp only at hSw); go_simp; try with_reducible rfl)
        try simp only [Act.put, List.setIfInBounds_toArray, List.set_cons_zero, List.set_cons_succ]
        refine wpAnyH_take (i := 2) (oi := { dst := some 82, op := Go.Op.load 63 (Go.Operand.tmp 3), type := 63, pos := "law.go:80", after := #[{ on := 1, ground := Go.Ground.guard }], guard := some (1, true) }) (v := ?v2) rfl (by kernel_rfl) (by kernel_rfl) (by kernel_rfl) (fun _ _ _ h => h) (Or.inl ⟨by rfl, ?y2⟩) (by assumption) ?r2
        case y2 => (intro w hSw; (try dsimp only at hSw); go_simp; try with_reducible rfl)
        try simp only [Act.put, List.setIfInBounds_toArray, List.set_cons_zero, List.set_cons_succ]
        refine wpAnyH_ready (rs := [3]) (by kernel_rfl) (by simp) ?_
        refine AllReadyH.cons (o := { dst := some 83, op := Go.Op.call { callee := Go.Callee.value (Go.Operand.func 34), args := #[Go.Operand.tmp 82], argTypes := #[63] }, type := 4, pos := "law.go:80", after := #[{ on := 2, ground := Go.Ground.data }, { on := 1, ground := Go.Ground.chain }, { on := 1, ground := Go.Ground.guard }], guard := some (1, true) }) rfl (fun K hK => ?_) AllReadyH.nil
        go_simp
        go_at_call 34
        refine Calls.mono (c1b _ (And.left hHeld)) ?_
        rintro e wy ⟨rfl, hz⟩
        try simp only []
        refine hK.out _ _ (keeps_next hHeld hz) (fun hHeld2 => ?_)
        clear hK K hz hHeld
        have hHeld := hHeld2
        clear hHeld2
        try simp only [Act.put, List.setIfInBounds_toArray, List.set_cons_zero, List.set_cons_succ]
        refine wpAnyH_take (i := 4) (oi := { dst := some 84, op := Go.Op.pick (Go.Operand.tmp 81) (Go.Operand.tmp 83) (Go.Operand.const (Go.Value.bool false)), type := 4, pos := "law.go:80", after := #[{ on := 1, ground := Go.Ground.data }, { on := 3, ground := Go.Ground.data }], guard := none }) (v := ?v4) rfl (by kernel_rfl) (by kernel_rfl) (by kernel_rfl) (fun _ _ _ h => h) (Or.inl ⟨by rfl, ?y4⟩) (by assumption) ?r4
        case y4 => (intro w hSw; (try dsimp only at hSw); go_simp; try with_reducible rfl)
        try simp only [Act.put, List.setIfInBounds_toArray, List.set_cons_zero, List.set_cons_succ]
        refine wpAnyH_take (i := 5) (oi := { dst := some 85, op := Go.Op.move (Go.Operand.tmp 84), type := 4, pos := "law.go:80", after := #[{ on := 4, ground := Go.Ground.data }, { on := 3, ground := Go.Ground.chain }], guard := none }) (v := ?v5) rfl (by kernel_rfl) (by kernel_rfl) (by kernel_rfl) (fun _ _ _ h => h) (Or.inl ⟨by rfl, ?y5⟩) (by assumption) ?r5
        case y5 => (intro w hSw; (try dsimp only at hSw); go_simp; try with_reducible rfl)
        try simp only [Act.put, List.setIfInBounds_toArray, List.set_cons_zero, List.set_cons_succ]
        refine wpAnyH_take (i := 6) (oi := { dst := some 86, op := Go.Op.load 63 (Go.Operand.tmp 3), type := 63, pos := "law.go:80", after := #[{ on := 5, ground := Go.Ground.guard }], guard := some (5, true) }) (v := ?v6) rfl (by kernel_rfl) (by kernel_rfl) (by kernel_rfl) (fun _ _ _ h => h) (Or.inl ⟨by rfl, ?y6⟩) (by assumption) ?r6
        case y6 => (intro w hSw; (try dsimp only at hSw); go_simp; try with_reducible rfl)
        try simp only [Act.put, List.setIfInBounds_toArray, List.set_cons_zero, List.set_cons_succ]
        refine wpAnyH_take (i := 8) (oi := { dst := some 88, op := Go.Op.fieldAddr 63 (Go.Operand.tmp 3) 1, type := 0, pos := "law.go:80", after := #[{ on := 5, ground := Go.Ground.guard }], guard := some (5, true) }) (v := ?v8) rfl (by kernel_rfl) (by kernel_rfl) (by kernel_rfl) (fun _ _ _ h => h) (Or.inl ⟨by rfl, ?y8⟩) (by assumption) ?r8
        case y8 => (intro w hSw; (try dsimp only at hSw); go_simp; try with_reducible rfl)
        try simp only [Act.put, List.setIfInBounds_toArray, List.set_cons_zero, List.set_cons_succ]
        refine wpAnyH_take (i := 9) (oi := { dst := some 89, op := Go.Op.load 3 (Go.Operand.tmp 88), type := 3, pos := "law.go:80", after := #[{ on := 8, ground := Go.Ground.data }, { on := 5, ground := Go.Ground.guard }], guard := some (5, true) }) (v := ?v9) rfl (by kernel_rfl) (by kernel_rfl) (by kernel_rfl) (fun _ _ _ h => h) (Or.inl ⟨by rfl, ?y9⟩) (by assumption) ?r9
        case y9 => (intro w hSw; (try dsimp only at hSw); go_simp; try with_reducible rfl)
        try simp only [Act.put, List.setIfInBounds_toArray, List.set_cons_zero, List.set_cons_succ]
        refine wpAnyH_take (i := 10) (oi := { dst := some 90, op := Go.Op.binOp Go.BinOp.mul 3 (Go.Operand.const (Go.Value.int Go.IntKind.i64 64)) (Go.Operand.tmp 89) 3, type := 3, pos := "law.go:80", after := #[{ on := 9, ground := Go.Ground.data }, { on := 5, ground := Go.Ground.guard }], guard := some (5, true) }) (v := ?v10) rfl (by kernel_rfl) (by kernel_rfl) (by kernel_rfl) (fun _ _ _ h => h) (Or.inl ⟨by rfl, ?y10⟩) (by assumption) ?r10
        case y10 => (intro w hSw; (try dsimp only at hSw); go_simp; try with_reducible rfl)
        try simp only [Act.put, List.setIfInBounds_toArray, List.set_cons_zero, List.set_cons_succ]
        refine wpAnyH_ready (rs := [7]) (by kernel_rfl) (by simp) ?_
        refine AllReadyH.cons (o := { dst := some 87, op := Go.Op.call { callee := Go.Callee.value (Go.Operand.func 35), args := #[Go.Operand.tmp 86], argTypes := #[63] }, type := 3, pos := "law.go:80", after := #[{ on := 6, ground := Go.Ground.data }, { on := 5, ground := Go.Ground.chain }, { on := 5, ground := Go.Ground.guard }], guard := some (5, true) }) rfl (fun K hK => ?_) AllReadyH.nil
        go_simp
        go_at_call 35
        refine Calls.mono (c1c _ (And.left hHeld)) ?_
        rintro e wz ⟨rfl, hz⟩
        try simp only []
        refine hK.out _ _ (keeps_next hHeld hz) (fun hHeld2 => ?_)
        clear hK K hz hHeld
        have hHeld := hHeld2
        clear hHeld2
        try simp only [Act.put, List.setIfInBounds_toArray, List.set_cons_zero, List.set_cons_succ]
        refine wpAnyH_take (i := 11) (oi := { dst := some 91, op := Go.Op.binOp Go.BinOp.eql 3 (Go.Operand.tmp 87) (Go.Operand.tmp 90) 3, type := 4, pos := "law.go:80", after := #[{ on := 7, ground := Go.Ground.data }, { on := 10, ground := Go.Ground.data }, { on := 5, ground := Go.Ground.guard }], guard := some (5, true) }) (v := ?v11) rfl (by kernel_rfl) (by kernel_rfl) (by kernel_rfl) (fun _ _ _ h => h) (Or.inl ⟨by rfl, ?y11⟩) (by assumption) ?r11
        case y11 => (intro w hSw; (try dsimp only at hSw); go_simp; try with_reducible rfl)
        try simp only [Act.put, List.setIfInBounds_toArray, List.set_cons_zero, List.set_cons_succ]
        refine wpAnyH_take (i := 12) (oi := { dst := some 92, op := Go.Op.pick (Go.Operand.tmp 85) (Go.Operand.tmp 91) (Go.Operand.const (Go.Value.bool false)), type := 4, pos := "law.go:80", after := #[{ on := 5, ground := Go.Ground.data }, { on := 11, ground := Go.Ground.data }], guard := none }) (v := ?v12) rfl (by kernel_rfl) (by kernel_rfl) (by kernel_rfl) (fun _ _ _ h => h) (Or.inl ⟨by rfl, ?y12⟩) (by assumption) ?r12
        case y12 => (intro w hSw; (try dsimp only at hSw); go_simp; try with_reducible rfl)
        try simp only [Act.put, List.setIfInBounds_toArray, List.set_cons_zero, List.set_cons_succ]
        refine wpAnyH_take (i := 13) (oi := { dst := some 93, op := Go.Op.move (Go.Operand.tmp 92), type := 4, pos := "law.go:80", after := #[{ on := 12, ground := Go.Ground.data }, { on := 7, ground := Go.Ground.chain }], guard := none }) (v := ?v13) rfl (by kernel_rfl) (by kernel_rfl) (by kernel_rfl) (fun _ _ _ h => h) (Or.inl ⟨by rfl, ?y13⟩) (by assumption) ?r13
        case y13 => (intro w hSw; (try dsimp only at hSw); go_simp; try with_reducible rfl)
        try simp only [Act.put, List.setIfInBounds_toArray, List.set_cons_zero, List.set_cons_succ]
        refine wpAnyH_take (i := 14) (oi := { dst := some 94, op := Go.Op.move (Go.Operand.tmp 11), type := 24, pos := "law.go:80", after := #[{ on := 13, ground := Go.Ground.guard }], guard := some (13, true) }) (v := ?v14) rfl (by kernel_rfl) (by kernel_rfl) (by kernel_rfl) (fun _ _ _ h => h) (Or.inl ⟨by rfl, ?y14⟩) (by assumption) ?r14
        case y14 => (intro w hSw; (try dsimp only at hSw); go_simp; try with_reducible rfl)
        try simp only [Act.put, List.setIfInBounds_toArray, List.set_cons_zero, List.set_cons_succ]
        refine wpAnyH_take (i := 15) (oi := { dst := some 95, op := Go.Op.binOp Go.BinOp.neq 24 (Go.Operand.tmp 94) (Go.Operand.const (Go.Value.int Go.IntKind.i64 0)) 24, type := 4, pos := "law.go:80", after := #[{ on := 14, ground := Go.Ground.data }, { on := 13, ground := Go.Ground.guard }], guard := some (13, true) }) (v := ?v15) rfl (by kernel_rfl) (by kernel_rfl) (by kernel_rfl) (fun _ _ _ h => h) (Or.inl ⟨by rfl, ?y15⟩) (by assumption) ?r15
        case y15 => (intro w hSw; (try dsimp only at hSw); go_simp; try with_reducible rfl)
        try simp only [Act.put, List.setIfInBounds_toArray, List.set_cons_zero, List.set_cons_succ]
        refine wpAnyH_take (i := 16) (oi := { dst := some 96, op := Go.Op.move (Go.Operand.tmp 95), type := 4, pos := "law.go:80", after := #[{ on := 15, ground := Go.Ground.data }, { on := 13, ground := Go.Ground.chain }, { on := 13, ground := Go.Ground.guard }], guard := some (13, true) }) (v := ?v16) rfl (by kernel_rfl) (by kernel_rfl) (by kernel_rfl) (fun _ _ _ h => h) (Or.inl ⟨by rfl, ?y16⟩) (by assumption) ?r16
        case y16 => (intro w hSw; (try dsimp only at hSw); go_simp; try with_reducible rfl)
        try simp only [Act.put, List.setIfInBounds_toArray, List.set_cons_zero, List.set_cons_succ]
        refine wpAnyH_take (i := 17) (oi := { dst := some 97, op := Go.Op.move (Go.Operand.tmp 10), type := 9, pos := "law.go:80", after := #[{ on := 16, ground := Go.Ground.guard }], guard := some (16, false) }) (v := undef) rfl (by kernel_rfl) (by kernel_rfl) (by kernel_rfl) (fun _ _ _ h => h) (Or.inr ⟨by rfl, rfl⟩) (by assumption) ?_
        try simp only [Act.put, List.setIfInBounds_toArray, List.set_cons_zero, List.set_cons_succ]
        refine wpAnyH_take (i := 18) (oi := { dst := some 98, op := Go.Op.call { callee := Go.Callee.builtin Go.Builtin.len, args := #[Go.Operand.tmp 97], argTypes := #[9] }, type := 3, pos := "law.go:80", after := #[{ on := 17, ground := Go.Ground.data }, { on := 16, ground := Go.Ground.guard }], guard := some (16, false) }) (v := undef) rfl (by kernel_rfl) (by kernel_rfl) (by kernel_rfl) (fun _ _ _ h => h) (Or.inr ⟨by rfl, rfl⟩) (by assumption) ?_
        try simp only [Act.put, List.setIfInBounds_toArray, List.set_cons_zero, List.set_cons_succ]
        refine wpAnyH_take (i := 19) (oi := { dst := some 99, op := Go.Op.move (Go.Operand.tmp 2), type := 3, pos := "law.go:80", after := #[{ on := 16, ground := Go.Ground.guard }], guard := some (16, false) }) (v := undef) rfl (by kernel_rfl) (by kernel_rfl) (by kernel_rfl) (fun _ _ _ h => h) (Or.inr ⟨by rfl, rfl⟩) (by assumption) ?_
        try simp only [Act.put, List.setIfInBounds_toArray, List.set_cons_zero, List.set_cons_succ]
        refine wpAnyH_take (i := 20) (oi := { dst := some 100, op := Go.Op.binOp Go.BinOp.eql 3 (Go.Operand.tmp 98) (Go.Operand.tmp 99) 3, type := 4, pos := "law.go:80", after := #[{ on := 18, ground := Go.Ground.data }, { on := 19, ground := Go.Ground.data }, { on := 16, ground := Go.Ground.guard }], guard := some (16, false) }) (v := undef) rfl (by kernel_rfl) (by kernel_rfl) (by kernel_rfl) (fun _ _ _ h => h) (Or.inr ⟨by rfl, rfl⟩) (by assumption) ?_
        try simp only [Act.put, List.setIfInBounds_toArray, List.set_cons_zero, List.set_cons_succ]
        refine wpAnyH_take (i := 21) (oi := { dst := some 101, op := Go.Op.pick (Go.Operand.tmp 96) (Go.Operand.const (Go.Value.bool true)) (Go.Operand.tmp 100), type := 4, pos := "law.go:80", after := #[{ on := 16, ground := Go.Ground.data }, { on := 20, ground := Go.Ground.data }, { on := 13, ground := Go.Ground.guard }], guard := some (13, true) }) (v := ?v21) rfl (by kernel_rfl) (by kernel_rfl) (by kernel_rfl) (fun _ _ _ h => h) (Or.inl ⟨by rfl, ?y21⟩) (by assumption) ?r21
        case y21 => (intro w hSw; (try dsimp only at hSw); go_simp; try with_reducible rfl)
        try simp only [Act.put, List.setIfInBounds_toArray, List.set_cons_zero, List.set_cons_succ]
        refine wpAnyH_take (i := 22) (oi := { dst := some 102, op := Go.Op.pick (Go.Operand.tmp 93) (Go.Operand.tmp 101) (Go.Operand.const (Go.Value.bool false)), type := 4, pos := "law.go:80", after := #[{ on := 13, ground := Go.Ground.data }, { on := 21, ground := Go.Ground.data }], guard := none }) (v := ?v22) rfl (by kernel_rfl) (by kernel_rfl) (by kernel_rfl) (fun _ _ _ h => h) (Or.inl ⟨by rfl, ?y22⟩) (by assumption) ?r22
        case y22 => (intro w hSw; (try dsimp only at hSw); go_simp; try with_reducible rfl)
        try simp only [Act.put, List.setIfInBounds_toArray, List.set_cons_zero, List.set_cons_succ]
        refine wpAnyH_take (i := 23) (oi := { dst := some 6, op := Go.Op.assign (Go.Operand.tmp 102), type := 4, pos := "law.go:80", after := #[{ on := 22, ground := Go.Ground.data }, { on := 16, ground := Go.Ground.chain }, { on := 0, ground := Go.Ground.phase }, { on := 1, ground := Go.Ground.phase }, { on := 2, ground := Go.Ground.phase }, { on := 3, ground := Go.Ground.phase }, { on := 4, ground := Go.Ground.phase }, { on := 5, ground := Go.Ground.phase }, { on := 6, ground := Go.Ground.phase }, { on := 7, ground := Go.Ground.phase }, { on := 8, ground := Go.Ground.phase }, { on := 9, ground := Go.Ground.phase }, { on := 10, ground := Go.Ground.phase }, { on := 11, ground := Go.Ground.phase }, { on := 12, ground := Go.Ground.phase }, { on := 13, ground := Go.Ground.phase }, { on := 14, ground := Go.Ground.phase }, { on := 15, ground := Go.Ground.phase }, { on := 16, ground := Go.Ground.phase }, { on := 17, ground := Go.Ground.phase }, { on := 18, ground := Go.Ground.phase }, { on := 19, ground := Go.Ground.phase }, { on := 20, ground := Go.Ground.phase }, { on := 21, ground := Go.Ground.phase }, { on := 22, ground := Go.Ground.phase }], guard := none }) (v := ?v23) rfl (by kernel_rfl) (by kernel_rfl) (by kernel_rfl) (fun _ _ _ h => h) (Or.inl ⟨by rfl, ?y23⟩) (by assumption) ?r23
        case y23 => (intro w hSw; (try dsimp only at hSw); go_simp; try with_reducible rfl)
        try simp only [Act.put, List.setIfInBounds_toArray, List.set_cons_zero, List.set_cons_succ]
        refine wpAnyH_done (by kernel_rfl) ?_ _
        have hh := And.left (And.right hHeld)
        clear hHeld
        go_wp2_with fail
        go_ret
        exact ⟨ret_bool (by simp), by rw [HQ.out]; exact HBA.out.trans ((HB3.out.trans (hh.mono (by have := HB3.out.size; have := HN.out; omega))).mono (by omega))⟩
end Go.Proofs.Ytcoliadgnbhkaaa
