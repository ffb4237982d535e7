/-
  LeadPlays' walk.
-/
import Derived.Test.YtadejhlljdcocaaLeadC
namespace Go.Proofs.Ytadejhlljdcocaa
open Go.RowKit Go.Sort
set_option linter.unusedVariables false
set_option linter.unusedSimpArgs false

theorem mask63L (x : Int) : bits .and .i64 x 63 = x % 64 := mask_mod x 6 63 (by decide) (by decide)
theorem maxI_eq (a b : Int) : maxI a b = max a b := by unfold maxI; split <;> omega
theorem flipL {P : Program} {f : FuncId} {args : Array Value} {w : World} {v : Value} (h : Calls P f args w fun e w' => e = .returned v ∧ w = w') : Calls P f args w fun e w' => e = .returned v ∧ w' = w := h.mono fun _ _ h => ⟨h.1, h.2.symm⟩
def Mid18 (w0 : World) (a b1 b2 : Nat) (wx : World) : Prop := ∃ M X, PL w0 wx a b1 b2 M X
set_option maxHeartbeats 6400000 in
set_option maxRecDepth 400000 in
theorem leadplays_law (last : Int) (la : Option Addr) (len cap : Nat) (w : World) (_hr : (Lit.int .i64 last).wf = true) (hf : Fits w (.slice (.two (.int .i64) (.two (.int .i64) (.two .bool .unit)))) [.slice la len cap]) :
    Calls Try.prog 4 #[.int .i64 last, .slice la len cap] w fun v w' => v = .returned (.bool true) ∧ Below w.heap.size w w' := by
  obtain ⟨a', len', cap', he, hlc, hcm, hel⟩ := hf
  injection he with he1 he2
  injection he1 with e1 e2 e3
  subst e1 e2 e3
  unfold maxLen at hcm
  have HEL := Lib.hid hel
  have hy := mask31 last
  have hy2 : 0 ≤ last % 32 ∧ last % 32 ≤ 31 := by omega
  rw [← hy] at hy2
  obtain ⟨n, hn⟩ : ∃ n, bits .and .i64 last 31 = n := ⟨_, rfl⟩
  rw [hn] at hy2
  obtain ⟨hn0, hn1⟩ := hy2
  have cl := fun w' => lnew n hn0 (by omega) w'
  clear hel he2 hy
  go_enter Try.func4, Try.ntmps4
  go_upto_region 2 with fail
  have HNN := Lib.hid hn
  clear hn
  go_wp2_with fail
  refine Calls.mono (cl _) ?_
  rintro e w1 ⟨rfl, hA, hb1⟩
  have hP0 : PL w ((w1.alloc (.cells (arr3 (fun _ => 0)) 44)).alloc (.cells (arr3 (fun _ => n + 1)) 44)) w.heap.size w1.heap.size (w1.heap.size + 1) (fun _ => 0) (fun _ => n + 1) := by
    have hba := (Below.refl w1.heap.size w1).alloc (Nat.le_refl _) (.cells (arr3 (fun _ => 0)) 44)
    have hbb := hba.alloc hba.size (.cells (arr3 (fun _ => n + 1)) 44)
    have hz : (w1.alloc (.cells (arr3 (fun _ => 0)) 44)).heap.size = w1.heap.size + 1 := by simp
    have hl1 := lt_heap hA
    have h2 := heap_alloc_self (w1.alloc (.cells (arr3 (fun _ => 0)) 44)) (.cells (arr3 (fun _ => n + 1)) 44)
    rw [hz] at h2
    exact ⟨Nat.le_refl _, hb1.size, by have := hb1.size; omega, by omega, by omega, by omega, hA.below hbb, far_obj (heap_alloc_self w1 _) _, h2, hb1.trans (hbb.mono hb1.size), fun k hk => ⟨Int.le_refl _, by omega, by omega⟩⟩
  unfold arr3 at hP0
  obtain ⟨a, ha⟩ : ∃ a, w.heap.size = a := ⟨_, rfl⟩
  have HA := Lib.hid ha
  have HP0 := Lib.hid hP0
  have hs1 : (w1.alloc (.cells #[.int .i64 0, .int .i64 0, .int .i64 0] 44)).heap.size = w1.heap.size + 1 := by simp
  clear hA hb1 cl hP0 ha
  go_wp2_with fail
  obtain ⟨b1, hb1⟩ : ∃ b1, w1.heap.size = b1 := ⟨_, rfl⟩
  obtain ⟨b2, hb2⟩ : ∃ b2, b1 + 1 = b2 := ⟨_, rfl⟩
  have HP := HP0.out
  rw [hb1, hb2] at HP
  rw [HA.out] at HP
  rw [hb1, hb2, HA.out]
  generalize ((w1.alloc (.cells #[.int .i64 0, .int .i64 0, .int .i64 0] 44)).alloc (.cells #[.int .i64 (n + 1), .int .i64 (n + 1), .int .i64 (n + 1)] 44)) = w2 at HP ⊢
  have HP1 := Lib.hid HP
  clear hb1 hb2 HP HP0 hs1
  go_loopw [9] (fun i wr => ∃ (j : Nat) (M X : Nat → Int), j ≤ len ∧ j ≤ 60 ∧ i = .int .i64 j ∧ Hid (PL w wr a b1 b2 M X)) (fun i _ => 60 - (intOf i).toNat)
  case atStart => exact ⟨0, _, _, by omega, by omega, rfl, HP1⟩
  case round =>
    obtain ⟨j, M, X, hj1, hj2, rfl, HR⟩ := hrel
    clear HP1
    by_cases hin : j < len ∧ j < 60
    · obtain ⟨hi1, hi2⟩ := hin
      obtain ⟨b, off, rfl, hbl, hel⟩ := HEL.out.resolve_left (by omega)
      obtain ⟨ys, hyl, hyc, tx, ty, rfl, ⟨who, rfl, -⟩, tz, tu, rfl, ⟨at0, rfl, -⟩, tv, tw, rfl, ⟨tb, rfl⟩, rfl⟩ := hel j hi1
      have key : ∀ (q : Nat) u, [Value.int .i64 who, .int .i64 at0, .bool tb][q]? = some u → wr.cell? ⟨b, off + j * 3 + q, none⟩ = some u := fun q u hq => by
        have := hyc q u hq
        rw [HR.out.below.cell hbl]
        simpa [Sh.size] using this
      have k0 := key 0 (.int .i64 who) rfl
      rw [Nat.add_zero] at k0
      have k1 := key 1 (.int .i64 at0) rfl
      have k2 := key 2 (.bool tb) rfl
      have hx := heap_alloc_self wr (.cells #[.int .i64 who, .int .i64 at0, .bool tb] 46)
      have hP := HR.out.go ((Below.refl wr.heap.size wr).alloc (Nat.le_refl _) (.cells #[.int .i64 who, .int .i64 at0, .bool tb] 46))
      have hy := mask63L at0
      have hy2 : 0 ≤ at0 % 64 ∧ at0 % 64 ≤ 63 := by omega
      rw [← hy] at hy2
      obtain ⟨A, hA⟩ : ∃ A, bits .and .i64 at0 63 = A := ⟨_, rfl⟩
      rw [hA] at hy2
      obtain ⟨hA0, hA1⟩ := hy2
      clear hyc hyl hel key HR hy
      go_upto_region 7 with fail
      generalize wr.alloc (.cells #[.int .i64 who, .int .i64 at0, .bool tb] 46) = w3 at *
      have d0 := cell_at hx 0 (v := .int .i64 who) rfl
      have d1 := cell_at hx 1 (v := .int .i64 at0) rfl
      have d2 := cell_at hx 2 (v := .bool tb) rfl
      have HX := Lib.hid hx
      have HP := Lib.hid hP
      clear k0 k1 k2 hx hP
      go_upto_region 8 with fail
      have HAA := Lib.hid hA
      clear hA
      obtain ⟨B, hB⟩ : ∃ B, (decide (0 ≤ who) && decide (who < 3)) = B := ⟨_, rfl⟩
      go_cut [12] (fun s wx => s = .bool B ∧ wx = w3)
      case first =>
        by_cases q0 : 0 ≤ who
        · by_cases q1 : who < 3
          · obtain rfl : B = true := by rw [← hB]; simp [q0, q1]
            clear hB
            go_wp2_with fail
            go_meet
            exact ⟨rfl, rfl⟩
          · obtain rfl : B = false := by rw [← hB]; simp; omega
            clear hB
            go_wp2_with fail
            go_meet
            exact ⟨rfl, rfl⟩
        · obtain rfl : B = false := by rw [← hB]; simp; omega
          clear hB
          go_wp2_with fail
          go_meet
          exact ⟨rfl, rfl⟩
      case rest =>
        obtain ⟨rfl, rfl⟩ := hcut
        obtain ⟨W0, hW0⟩ : ∃ W0, W0 = wc := ⟨_, rfl⟩
        subst hW0
        go_upto_block 2 with fail
        go_cut [] (fun wx => Mid18 w a b1 b2 wx)
        case first =>
          by_cases q : 0 ≤ who ∧ who < 3
          · obtain ⟨q0, q1⟩ := q
            obtain rfl : B = true := by rw [← hB]; simp [q0, q1]
            clear hB
            rcases who3 q0 q1 with rfl | rfl | rfl
            · have cN := lno_in 0 (by decide) a W0 M X HP.out.lead (by have := HP.out.bnd 0 (by decide); omega) (by have := HP.out.bnd 0 (by decide); omega)
              have cY := lyes_in 0 (by decide) A a W0 M X HP.out.lead hA0 (by omega) (by have := HP.out.bnd 0 (by decide); omega)
              rw [show ((0 : Nat) : Int) = 0 from rfl] at cN cY
              obtain ⟨bn0, bn1, bn2⟩ := HP.out.bnd 0 (by decide)
              cases tb
              · clear cN
                go_wp2_with fail
                refine Calls.mono cY ?_
                rintro e w4 ⟨rfl, hl4, ho4⟩
                have hne := HX.out
                have hxo : w4.heap[wr.heap.size]? = _ := (ho4.2.2 wr.heap.size (lt_heap HX.out) (fun e => by have h1 := HP.out.lead; unfold LeadAt at h1; rw [e, h1] at hne; injection hne with hne; injection hne with _ h2; exact absurd h2 (by decide))).trans HX.out
                have d0 := cell_at hxo 0 (v := .int .i64 0) rfl
                have d1 := cell_at hxo 1 (v := .int .i64 at0) rfl
                have d2 := cell_at hxo 2 (v := .bool false) rfl
                have m1 := (ho4.2.2 b1 (lt_heap HP.out.m) (Ne.symm HP.out.n1)).trans HP.out.m
                have x1 := (ho4.2.2 b2 (lt_heap HP.out.x) (Ne.symm HP.out.n2)).trans HP.out.x
                have f1 := cell_at m1 0 (arr3_at M 0 (by decide))
                have f2 := cell_at x1 0 (arr3_at X 0 (by decide))
                have f3 := frz_at m1 0
                have f4 := frz_at x1 0
                by_cases hle : A ≤ M 0
                · have e1 : yesM M 0 A = M := by unfold yesM; rw [if_pos hle]
                  have e2 : yesX M X 0 A = X := by unfold yesX; rw [if_pos hle]
                  rw [e1, e2] at hl4
                  have HF := Lib.hid (HP.out.same hl4 ho4)
                  clear e1 e2 hl4 ho4 cY hne hxo m1 x1
                  go_wp2_with fail
                  go_meet
                  exact ⟨_, _, HF.out⟩
                · have hf5 := HP.out.yes 0 (by decide) A hA0 hA1 hle hl4 ho4
                  rw [maxI_eq] at hf5
                  have HF := Lib.hid hf5
                  have f5 : (w4.setCell ⟨b1, 0, none⟩ (.int .i64 A)).cell? ⟨b2, 0, none⟩ = some (.int .i64 (X 0)) := by
                    simp only [World.cell?] at f2 ⊢
                    rw [heap_setCell_other _ _ _ _ (Ne.symm HP.out.n3)]
                    exact f2
                  have hnb : wr.heap.size ≠ b1 := fun e => by
                    have h1 := HP.out.m
                    have h2 := HX.out
                    rw [e, h1] at h2
                    injection h2 with h2
                    injection h2 with _ h3
                    exact absurd h3 (by decide)
                  have f7 : (w4.setCell ⟨b1, 0, none⟩ (.int .i64 A)).cell? ⟨wr.heap.size, 0, none⟩ = some (.int .i64 0) := by
                    simp only [World.cell?] at d0 ⊢
                    rw [heap_setCell_other _ _ _ _ hnb]
                    exact d0
                  have f6 : (w4.setCell ⟨b1, 0, none⟩ (.int .i64 A)).frozen? ⟨b2, 0, none⟩ = false := by
                    simp only [World.frozen?] at f4 ⊢
                    rw [heap_setCell_other _ _ _ _ (Ne.symm HP.out.n3)]
                    exact f4
                  clear hf5
                  clear hl4 ho4 cY hne hxo m1 x1
                  go_wp2_with fail
                  go_region
                  all_goals
                    go_wp2_with fail
                    go_meet
                    exact ⟨_, _, HF.out⟩
              · clear cY
                go_wp2_with fail
                refine Calls.mono cN ?_
                rintro e w4 ⟨rfl, hl4, ho4⟩
                have hne := HX.out
                have hxo : w4.heap[wr.heap.size]? = _ := (ho4.2.2 wr.heap.size (lt_heap HX.out) (fun e => by have h1 := HP.out.lead; unfold LeadAt at h1; rw [e, h1] at hne; injection hne with hne; injection hne with _ h2; exact absurd h2 (by decide))).trans HX.out
                have d0 := cell_at hxo 0 (v := .int .i64 0) rfl
                have m1 := (ho4.2.2 b1 (lt_heap HP.out.m) (Ne.symm HP.out.n1)).trans HP.out.m
                have x1 := (ho4.2.2 b2 (lt_heap HP.out.x) (Ne.symm HP.out.n2)).trans HP.out.x
                have f1 := cell_at m1 0 (arr3_at M 0 (by decide))
                have f2 := cell_at x1 0 (arr3_at X 0 (by decide))
                have f4 := frz_at x1 0
                have hf5 := HP.out.no 0 (by decide) hl4 ho4
                rw [maxI_eq] at hf5
                have HF := Lib.hid hf5
                clear hf5
                clear hl4 ho4 cN hne hxo m1 x1
                go_wp2_with fail
                go_region
                all_goals
                  go_wp2_with fail
                  go_meet
                  exact ⟨_, _, HF.out⟩
            · have cN := lno_in 1 (by decide) a W0 M X HP.out.lead (by have := HP.out.bnd 1 (by decide); omega) (by have := HP.out.bnd 1 (by decide); omega)
              have cY := lyes_in 1 (by decide) A a W0 M X HP.out.lead hA0 (by omega) (by have := HP.out.bnd 1 (by decide); omega)
              rw [show ((1 : Nat) : Int) = 1 from rfl] at cN cY
              obtain ⟨bn0, bn1, bn2⟩ := HP.out.bnd 1 (by decide)
              cases tb
              · clear cN
                go_wp2_with fail
                refine Calls.mono cY ?_
                rintro e w4 ⟨rfl, hl4, ho4⟩
                have hne := HX.out
                have hxo : w4.heap[wr.heap.size]? = _ := (ho4.2.2 wr.heap.size (lt_heap HX.out) (fun e => by have h1 := HP.out.lead; unfold LeadAt at h1; rw [e, h1] at hne; injection hne with hne; injection hne with _ h2; exact absurd h2 (by decide))).trans HX.out
                have d0 := cell_at hxo 0 (v := .int .i64 1) rfl
                have d1 := cell_at hxo 1 (v := .int .i64 at0) rfl
                have d2 := cell_at hxo 2 (v := .bool false) rfl
                have m1 := (ho4.2.2 b1 (lt_heap HP.out.m) (Ne.symm HP.out.n1)).trans HP.out.m
                have x1 := (ho4.2.2 b2 (lt_heap HP.out.x) (Ne.symm HP.out.n2)).trans HP.out.x
                have f1 := cell_at m1 1 (arr3_at M 1 (by decide))
                have f2 := cell_at x1 1 (arr3_at X 1 (by decide))
                have f3 := frz_at m1 1
                have f4 := frz_at x1 1
                by_cases hle : A ≤ M 1
                · have e1 : yesM M 1 A = M := by unfold yesM; rw [if_pos hle]
                  have e2 : yesX M X 1 A = X := by unfold yesX; rw [if_pos hle]
                  rw [e1, e2] at hl4
                  have HF := Lib.hid (HP.out.same hl4 ho4)
                  clear e1 e2 hl4 ho4 cY hne hxo m1 x1
                  go_wp2_with fail
                  go_meet
                  exact ⟨_, _, HF.out⟩
                · have hf5 := HP.out.yes 1 (by decide) A hA0 hA1 hle hl4 ho4
                  rw [maxI_eq] at hf5
                  have HF := Lib.hid hf5
                  have f5 : (w4.setCell ⟨b1, 1, none⟩ (.int .i64 A)).cell? ⟨b2, 1, none⟩ = some (.int .i64 (X 1)) := by
                    simp only [World.cell?] at f2 ⊢
                    rw [heap_setCell_other _ _ _ _ (Ne.symm HP.out.n3)]
                    exact f2
                  have hnb : wr.heap.size ≠ b1 := fun e => by
                    have h1 := HP.out.m
                    have h2 := HX.out
                    rw [e, h1] at h2
                    injection h2 with h2
                    injection h2 with _ h3
                    exact absurd h3 (by decide)
                  have f7 : (w4.setCell ⟨b1, 1, none⟩ (.int .i64 A)).cell? ⟨wr.heap.size, 0, none⟩ = some (.int .i64 1) := by
                    simp only [World.cell?] at d0 ⊢
                    rw [heap_setCell_other _ _ _ _ hnb]
                    exact d0
                  have f6 : (w4.setCell ⟨b1, 1, none⟩ (.int .i64 A)).frozen? ⟨b2, 1, none⟩ = false := by
                    simp only [World.frozen?] at f4 ⊢
                    rw [heap_setCell_other _ _ _ _ (Ne.symm HP.out.n3)]
                    exact f4
                  clear hf5
                  clear hl4 ho4 cY hne hxo m1 x1
                  go_wp2_with fail
                  go_region
                  all_goals
                    go_wp2_with fail
                    go_meet
                    exact ⟨_, _, HF.out⟩
              · clear cY
                go_wp2_with fail
                refine Calls.mono cN ?_
                rintro e w4 ⟨rfl, hl4, ho4⟩
                have hne := HX.out
                have hxo : w4.heap[wr.heap.size]? = _ := (ho4.2.2 wr.heap.size (lt_heap HX.out) (fun e => by have h1 := HP.out.lead; unfold LeadAt at h1; rw [e, h1] at hne; injection hne with hne; injection hne with _ h2; exact absurd h2 (by decide))).trans HX.out
                have d0 := cell_at hxo 0 (v := .int .i64 1) rfl
                have m1 := (ho4.2.2 b1 (lt_heap HP.out.m) (Ne.symm HP.out.n1)).trans HP.out.m
                have x1 := (ho4.2.2 b2 (lt_heap HP.out.x) (Ne.symm HP.out.n2)).trans HP.out.x
                have f1 := cell_at m1 1 (arr3_at M 1 (by decide))
                have f2 := cell_at x1 1 (arr3_at X 1 (by decide))
                have f4 := frz_at x1 1
                have hf5 := HP.out.no 1 (by decide) hl4 ho4
                rw [maxI_eq] at hf5
                have HF := Lib.hid hf5
                clear hf5
                clear hl4 ho4 cN hne hxo m1 x1
                go_wp2_with fail
                go_region
                all_goals
                  go_wp2_with fail
                  go_meet
                  exact ⟨_, _, HF.out⟩
            · have cN := lno_in 2 (by decide) a W0 M X HP.out.lead (by have := HP.out.bnd 2 (by decide); omega) (by have := HP.out.bnd 2 (by decide); omega)
              have cY := lyes_in 2 (by decide) A a W0 M X HP.out.lead hA0 (by omega) (by have := HP.out.bnd 2 (by decide); omega)
              rw [show ((2 : Nat) : Int) = 2 from rfl] at cN cY
              obtain ⟨bn0, bn1, bn2⟩ := HP.out.bnd 2 (by decide)
              cases tb
              · clear cN
                go_wp2_with fail
                refine Calls.mono cY ?_
                rintro e w4 ⟨rfl, hl4, ho4⟩
                have hne := HX.out
                have hxo : w4.heap[wr.heap.size]? = _ := (ho4.2.2 wr.heap.size (lt_heap HX.out) (fun e => by have h1 := HP.out.lead; unfold LeadAt at h1; rw [e, h1] at hne; injection hne with hne; injection hne with _ h2; exact absurd h2 (by decide))).trans HX.out
                have d0 := cell_at hxo 0 (v := .int .i64 2) rfl
                have d1 := cell_at hxo 1 (v := .int .i64 at0) rfl
                have d2 := cell_at hxo 2 (v := .bool false) rfl
                have m1 := (ho4.2.2 b1 (lt_heap HP.out.m) (Ne.symm HP.out.n1)).trans HP.out.m
                have x1 := (ho4.2.2 b2 (lt_heap HP.out.x) (Ne.symm HP.out.n2)).trans HP.out.x
                have f1 := cell_at m1 2 (arr3_at M 2 (by decide))
                have f2 := cell_at x1 2 (arr3_at X 2 (by decide))
                have f3 := frz_at m1 2
                have f4 := frz_at x1 2
                by_cases hle : A ≤ M 2
                · have e1 : yesM M 2 A = M := by unfold yesM; rw [if_pos hle]
                  have e2 : yesX M X 2 A = X := by unfold yesX; rw [if_pos hle]
                  rw [e1, e2] at hl4
                  have HF := Lib.hid (HP.out.same hl4 ho4)
                  clear e1 e2 hl4 ho4 cY hne hxo m1 x1
                  go_wp2_with fail
                  go_meet
                  exact ⟨_, _, HF.out⟩
                · have hf5 := HP.out.yes 2 (by decide) A hA0 hA1 hle hl4 ho4
                  rw [maxI_eq] at hf5
                  have HF := Lib.hid hf5
                  have f5 : (w4.setCell ⟨b1, 2, none⟩ (.int .i64 A)).cell? ⟨b2, 2, none⟩ = some (.int .i64 (X 2)) := by
                    simp only [World.cell?] at f2 ⊢
                    rw [heap_setCell_other _ _ _ _ (Ne.symm HP.out.n3)]
                    exact f2
                  have hnb : wr.heap.size ≠ b1 := fun e => by
                    have h1 := HP.out.m
                    have h2 := HX.out
                    rw [e, h1] at h2
                    injection h2 with h2
                    injection h2 with _ h3
                    exact absurd h3 (by decide)
                  have f7 : (w4.setCell ⟨b1, 2, none⟩ (.int .i64 A)).cell? ⟨wr.heap.size, 0, none⟩ = some (.int .i64 2) := by
                    simp only [World.cell?] at d0 ⊢
                    rw [heap_setCell_other _ _ _ _ hnb]
                    exact d0
                  have f6 : (w4.setCell ⟨b1, 2, none⟩ (.int .i64 A)).frozen? ⟨b2, 2, none⟩ = false := by
                    simp only [World.frozen?] at f4 ⊢
                    rw [heap_setCell_other _ _ _ _ (Ne.symm HP.out.n3)]
                    exact f4
                  clear hf5
                  clear hl4 ho4 cY hne hxo m1 x1
                  go_wp2_with fail
                  go_region
                  all_goals
                    go_wp2_with fail
                    go_meet
                    exact ⟨_, _, HF.out⟩
              · clear cY
                go_wp2_with fail
                refine Calls.mono cN ?_
                rintro e w4 ⟨rfl, hl4, ho4⟩
                have hne := HX.out
                have hxo : w4.heap[wr.heap.size]? = _ := (ho4.2.2 wr.heap.size (lt_heap HX.out) (fun e => by have h1 := HP.out.lead; unfold LeadAt at h1; rw [e, h1] at hne; injection hne with hne; injection hne with _ h2; exact absurd h2 (by decide))).trans HX.out
                have d0 := cell_at hxo 0 (v := .int .i64 2) rfl
                have m1 := (ho4.2.2 b1 (lt_heap HP.out.m) (Ne.symm HP.out.n1)).trans HP.out.m
                have x1 := (ho4.2.2 b2 (lt_heap HP.out.x) (Ne.symm HP.out.n2)).trans HP.out.x
                have f1 := cell_at m1 2 (arr3_at M 2 (by decide))
                have f2 := cell_at x1 2 (arr3_at X 2 (by decide))
                have f4 := frz_at x1 2
                have hf5 := HP.out.no 2 (by decide) hl4 ho4
                rw [maxI_eq] at hf5
                have HF := Lib.hid hf5
                clear hf5
                clear hl4 ho4 cN hne hxo m1 x1
                go_wp2_with fail
                go_region
                all_goals
                  go_wp2_with fail
                  go_meet
                  exact ⟨_, _, HF.out⟩
          · have q1 : who < 0 ∨ 3 ≤ who := by omega
            obtain rfl : B = false := by rw [← hB]; simp; omega
            have cN := lno_out who q1 a W0
            have cY := lyes_out who A q1 a W0
            clear hB q q1
            cases tb
            · go_wp2_with fail
              refine Calls.mono cY ?_
              rintro e w4 ⟨rfl, rfl⟩
              go_wp2_with fail
              go_meet
              exact ⟨_, _, HP.out⟩
            · go_wp2_with fail
              refine Calls.mono cN ?_
              rintro e w4 ⟨rfl, rfl⟩
              go_wp2_with fail
              go_meet
              exact ⟨_, _, HP.out⟩
        case rest =>
          obtain ⟨M1, X1, hP1⟩ := hcut
          obtain ⟨W1, hW1⟩ : ∃ W1, W1 = wc := ⟨_, rfl⟩
          subst hW1
          have HP1 := Lib.hid hP1
          clear d0 d1 d2 HX HP hP1 hB
          go_wp2_with fail
          go_loopw [13] (fun i wx => ∃ k t : Nat, k ≤ 3 ∧ i = .int .i64 k ∧ wx = W1.drewN t) (fun i _ => 3 - (intOf i).toNat)
          case atStart => exact ⟨0, 0, by decide, rfl, rfl⟩
          case round =>
            obtain ⟨k, t, hk, rfl, rfl⟩ := hrel
            by_cases hk3 : k < 3
            · have cm := fun q => flipL (lmatch_in k hk3 a ((W1.drewN t).drewN q) M1 X1 ((HP1.out.lead.drewN t).drewN q))
              have cx := fun q => flipL (lnext_in k hk3 a ((W1.drewN t).drewN q) M1 X1 ((HP1.out.lead.drewN t).drewN q))
              obtain ⟨f1, f2, -, -⟩ := HP1.out.cells k hk3
              obtain ⟨-, bn1, -⟩ := HP1.out.bnd k hk3
              obtain ⟨mk, hmk⟩ : ∃ m, M1 k = m := ⟨_, rfl⟩
              obtain ⟨xk, hxk⟩ : ∃ m, X1 k = m := ⟨_, rfl⟩
              rw [hmk] at cm f1 bn1
              rw [hxk] at cx f2 bn1
              have t1 : decide (xk ≤ mk) = false := decide_eq_false (by omega)
              have f1' : (W1.drewN t).cell? ⟨b1, k, none⟩ = some (.int .i64 mk) := f1
              have f2' : (W1.drewN t).cell? ⟨b2, k, none⟩ = some (.int .i64 xk) := f2
              obtain ⟨W2, hW2⟩ : ∃ W2, W1.drewN t = W2 := ⟨_, rfl⟩
              rw [hW2] at cm cx f1' f2' ⊢
              have HW2 := Lib.hid hW2
              clear hmk hxk f1 f2 hW2
              go_wp2_with fail
              go_quiet ((first | (go_at_call 25; exact Calls.quiet_of_same (cm _)) | (go_at_call 26; exact Calls.quiet_of_same (cx _))))
              go_wp2_with fail
              go_roundw
              case rel => exact ⟨k + 1, t + nq, by omega, by simp, by rw [← HW2.out]; exact drewN_moreR _ _ _⟩
              case measure => simp [intOf]; omega
            · go_wp2_with fail
              go_roundw
              case rel => exact ⟨j + 1, M1, X1, by omega, by omega, by simp, Lib.hid (HP1.out.go (below_drewN' (Below.refl _ _) t))⟩
              case measure => simp [intOf]; omega
    · have ca := fun w => awake18 w
      clear HEL
      go_wp2_with fail
      all_goals
        refine Calls.mono (ca _) ?_
        rintro e w4 ⟨rfl, h4⟩
        have HP4 := Lib.hid (HR.out.go h4)
        clear h4
        go_wp2_with fail
        refine Calls.mono (lmatch_out 3 (by decide) a _) ?_
        rintro e w5 ⟨rfl, rfl⟩
        go_wp2_with fail
        refine Calls.mono (lnext_out (-1) (by decide) a _) ?_
        rintro e w5 ⟨rfl, rfl⟩
        go_wp2_with fail
        go_ret
        exact ⟨rfl, HP4.out.below⟩
end Go.Proofs.Ytadejhlljdcocaa
