/-
  plan: Parts.
-/
import Derived.Test.YtjpnbicnaeaacaaPlanB
namespace Go.Proofs.Ytjpnbicnaeaacaa
open Go.RowKit
set_option linter.unusedVariables false
set_option linter.unusedSimpArgs false

/-- the cells of each thing in a slice of things -/
theorem asks_cells {w : World} {xs : List AskV} {v : Value} (h : SR w v 5 xs.length (asksC xs)) : ∃ a cap, v = .slice a xs.length cap ∧ xs.length ≤ cap ∧ cap ≤ maxLen ∧ (xs.length = 0 ∨ ∃ b off, a = some ⟨b, off, none⟩ ∧ b < w.heap.size ∧ ∀ (j : Nat) (hj : j < xs.length),
    w.cell? ⟨b, off + j * 5, none⟩ = some (.int .i64 xs[j].W) ∧ w.cell? ⟨b, off + j * 5 + 1, none⟩ = some (.int .i64 xs[j].A) ∧ w.cell? ⟨b, off + j * 5 + 2, none⟩ = some (.int .i64 xs[j].L) ∧ w.cell? ⟨b, off + j * 5 + 3, none⟩ = some (.string xs[j].D) ∧ w.cell? ⟨b, off + j * 5 + 4, none⟩ = some (.bool xs[j].S)) := by
  obtain ⟨a, cap, rfl, h1, h2, h3, h4⟩ := h
  refine ⟨a, cap, rfl, h1, h2, h4.imp id ?_⟩
  rintro ⟨b, off, rfl, hlt, hc⟩
  refine ⟨b, off, rfl, hlt, fun j hj => ⟨?_, ?_, ?_, ?_, ?_⟩⟩
  · exact hc (j * 5 + 0) _ (by rw [asksC_get xs j 0 hj (by decide)]; rfl)
  · exact hc (j * 5 + 1) _ (by rw [asksC_get xs j 1 hj (by decide)]; rfl)
  · exact hc (j * 5 + 2) _ (by rw [asksC_get xs j 2 hj (by decide)]; rfl)
  · exact hc (j * 5 + 3) _ (by rw [asksC_get xs j 3 hj (by decide)]; rfl)
  · exact hc (j * 5 + 4) _ (by rw [asksC_get xs j 4 hj (by decide)]; rfl)
set_option maxHeartbeats 3200000 in
set_option maxRecDepth 100000 in
theorem pparts (xs : List AskV) (v : Value) (B d e : Int) (w : World) (hv : SR w v 5 xs.length (asksC xs)) (hok : ∀ x ∈ xs, x.ok) (hl : xs.length ≤ 70) :
    Calls Try.prog 23 #[v, .agg #[.int .i64 B, .int .i64 d, .int .i64 e]] w fun r w' => r = .returned (.int .i64 (min (satS B d xs) 4000)) ∧ Below w.heap.size w w' := by
  obtain ⟨a, cap, rfl, hlc, hcm, hcell⟩ := asks_cells hv
  unfold maxLen at hcm
  have hx := heap_alloc_self w (.cells #[.int .i64 B, .int .i64 d, .int .i64 e] 50)
  have hb0 : Below w.heap.size w (w.alloc (.cells #[.int .i64 B, .int .i64 d, .int .i64 e] 50)) := (Below.refl _ _).alloc (Nat.le_refl _) _
  have HC := Lib.hid hcell
  have HOK := Lib.hid hok
  clear hv hcell hok
  go_enter Try.func23, Try.ntmps23
  go_upto_region 1 with fail
  generalize w.alloc (.cells #[.int .i64 B, .int .i64 d, .int .i64 e] 50) = w1 at *
  obtain ⟨X, hX⟩ : ∃ X, w.heap.size = X := ⟨_, rfl⟩
  rw [hX] at hx hb0
  try rw [hX]
  have hXl := lt_heap hx
  have HX := Lib.hid hx
  have HB := Lib.hid hb0
  clear hx hb0
  go_wp2_with fail
  go_loopw [5, 10] (fun n i wr => ∃ j : Nat, j ≤ xs.length ∧ i = .int .i64 j ∧ n = .int .i64 (satS B d (xs.take j)) ∧ satS B d (xs.take j) < 4000 ∧ Below w1.heap.size w1 wr) (fun _ i _ => xs.length - (intOf i).toNat)
  case atStart => exact ⟨0, Nat.zero_le _, rfl, rfl, by show (0 : Int) < 4000; decide, Below.refl _ _⟩
  case round =>
    obtain ⟨j, hj, rfl, rfl, hlt4, hbr⟩ := hrel
    have hs0 := (satS_le B d (xs.take j)).1
    have HR := Lib.hid hbr
    clear hbr
    by_cases hlt : j < xs.length
    · obtain ⟨b, off, rfl, hbl, hc⟩ := HC.out.resolve_left (by omega)
      obtain ⟨c0, c1, c2, c3, c4⟩ := hc j hlt
      have hsucc := satS_succ B d xs j hlt hlt4
      have hcl := cost_le B d xs[j]
      have hxo := HOK.out xs[j] (List.getElem_mem hlt)
      generalize hxj : xs[j] = x at *
      obtain ⟨W, A, L, D, S⟩ := x
      obtain ⟨n, hn⟩ : ∃ n, satS B d (xs.take j) = n := ⟨_, rfl⟩
      rw [hn] at hs0 hlt4 hsucc
      try rw [hn]
      dsimp only at c0 c1 c2 c3 c4
      have hbX : Below X w wr := HB.out.trans (HR.out.mono (Nat.le_of_lt hXl))
      have hbl' : b < X := by rw [← hX]; exact hbl
      have c0 := (hbX.cell (p := ⟨b, _, none⟩) hbl').trans c0
      have c1 := (hbX.cell (p := ⟨b, _, none⟩) hbl').trans c1
      have c2 := (hbX.cell (p := ⟨b, _, none⟩) hbl').trans c2
      have c3 := (hbX.cell (p := ⟨b, _, none⟩) hbl').trans c3
      have c4 := (hbX.cell (p := ⟨b, _, none⟩) hbl').trans c4
      have hj1 : (j : Int) < (xs.length : Int) := by omega
      have HS := Lib.hid hsucc
      have HXO := Lib.hid hxo
      have HJ := Lib.hid hlt
      have hvx := below_at HR.out hXl HX.out
      have hn' := HS.out
      clear hc hxj hxo hbX HC
      go_upto_region 5 with fail
      have hx3 := heap_alloc_self wr (.cells #[.int .i64 W, .int .i64 A, .int .i64 L, .string D, .bool S] 37)
      have hv3 := below_at ((Below.refl wr.heap.size wr).alloc (Nat.le_refl _) (.cells #[.int .i64 W, .int .i64 A, .int .i64 L, .string D, .bool S] 37)) (lt_heap hvx) hvx
      have hb3 : Below w1.heap.size w1 (wr.alloc (.cells #[.int .i64 W, .int .i64 A, .int .i64 L, .string D, .bool S] 37)) := HR.out.alloc HR.out.size _
      generalize wr.alloc (.cells #[.int .i64 W, .int .i64 A, .int .i64 L, .string D, .bool S] 37) = w3 at *
      obtain ⟨P, hP⟩ : ∃ P, wr.heap.size = P := ⟨_, rfl⟩
      rw [hP] at hx3
      try rw [hP]
      have p0 : w3.cell? ⟨P, 0, none⟩ = some (.int .i64 W) := by simp [World.cell?, hx3]
      have p1 : w3.cell? ⟨P, 1, none⟩ = some (.int .i64 A) := by simp [World.cell?, hx3]
      have p2 : w3.cell? ⟨P, 2, none⟩ = some (.int .i64 L) := by simp [World.cell?, hx3]
      have p3 : w3.cell? ⟨P, 3, none⟩ = some (.string D) := by simp [World.cell?, hx3]
      have p4 : w3.cell? ⟨P, 4, none⟩ = some (.bool S) := by simp [World.cell?, hx3]
      have v0 : w3.cell? ⟨X, 0, none⟩ = some (.int .i64 B) := by simp [World.cell?, hv3]
      have v1 : w3.cell? ⟨X, 1, none⟩ = some (.int .i64 d) := by simp [World.cell?, hv3]
      have HB3 := Lib.hid hb3
      clear hx3 hv3 hb3 hvx c0 c1 c2 c3 c4 hP hn
      have hstop : ∀ n', satS B d (xs.take (j + 1)) = n' → 4000 ≤ n' → satS B d xs = n' := fun n' h1 h2 => by rw [← h1] at h2 ⊢; exact satS_stay B d xs _ h2
      have HST := Lib.hid hstop
      clear hstop
      by_cases h3 : W = 3
      · subst h3
        have hk : cost B d ⟨3, A, L, D, S⟩ = min (max d 0) 64 := by unfold cost; rw [if_pos rfl]
        rw [hk] at hn' hcl HS
        obtain ⟨k, hk'⟩ : ∃ k, min (max d 0) 64 = k := ⟨_, rfl⟩
        rw [hk'] at hn' hcl HS
        have cw := fun w => pwithin d 64 w
        rw [hk'] at cw
        clear hk hk' hn' hsucc
        obtain ⟨hc0, hc6⟩ := hcl
        by_cases h4 : 4000 ≤ n + k
        · go_wp2_with fail
          refine Calls.mono (cw _) ?_
          rintro r w4 ⟨rfl, rfl⟩
          go_wp2_with fail
          go_ret
          exact ⟨ret_int (by have := HST.out _ HS.out h4; omega), by rw [hX]; exact HB.out.trans (HB3.out.mono (Nat.le_of_lt hXl))⟩
        · go_wp2_with fail
          refine Calls.mono (cw _) ?_
          rintro r w4 ⟨rfl, rfl⟩
          go_wp2_with fail
          go_roundw
          case rel => exact ⟨j + 1, HJ.out, by go_num, by rw [HS.out], by rw [HS.out]; omega, HB3.out⟩
          case measure => have := HJ.out; simp [intOf]; omega
      · have e3 : (W == 3) = false := by rw [beq_eq_false_iff_ne]; exact h3
        obtain ⟨q1, q2, q3, q4⟩ := HXO.out
        have cp := fun w => nparts_cnt W A L D S B w q2 q3 q4 h3
        have hk : cost B d ⟨W, A, L, D, S⟩ = if AskMay W A L D B then 2 * (askSz W L D / 32) else 0 := by unfold cost; rw [if_neg h3]
        obtain ⟨k, hk'⟩ : ∃ k, (if AskMay W A L D B then 2 * (askSz W L D / 32) else 0) = k := ⟨_, rfl⟩
        rw [hk, hk'] at hn' hcl HS
        rw [hk'] at cp
        unfold askA at cp
        clear hk hk' hn' hsucc q1 q2 q3 q4 HXO
        obtain ⟨hc0, hc6⟩ := hcl
        go_wp2_with fail
        refine Calls.mono (cp _) ?_
        rintro r w4 ⟨a4, m, cap4, rfl, hm4, hkm, hb4⟩
        have HB4 := Lib.hid (HB3.out.trans (hb4.mono HB3.out.size))
        subst hkm
        clear hb4 cp
        by_cases h4 : 4000 ≤ n + 2 * (m : Int)
        · go_wp2_with fail
          go_ret
          exact ⟨ret_int (by have := HST.out _ HS.out h4; omega), by rw [hX]; exact HB.out.trans (HB4.out.mono (Nat.le_of_lt hXl))⟩
        · go_wp2_with fail
          go_roundw
          case rel => exact ⟨j + 1, HJ.out, by go_num, by rw [HS.out], by rw [HS.out]; omega, HB4.out⟩
          case measure => have := HJ.out; simp [intOf]; omega
    · obtain rfl : j = xs.length := by omega
      rw [List.take_length] at hlt4 hs0
      rw [List.take_length]
      obtain ⟨n, hn⟩ : ∃ n, satS B d xs = n := ⟨_, rfl⟩
      rw [hn] at hs0 hlt4 ⊢
      go_wp2_with fail
      go_ret
      exact ⟨ret_int (by omega), by rw [hX]; exact HB.out.trans (HR.out.mono (Nat.le_of_lt hXl))⟩
end Go.Proofs.Ytjpnbicnaeaacaa
