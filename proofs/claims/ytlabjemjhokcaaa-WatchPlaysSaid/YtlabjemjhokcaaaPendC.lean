/-
  PendOnce's walk; the waking call of layer 29.
-/
import Derived.Test.YtlabjemjhokcaaaPendB
import Derived.IntWalk
namespace Go.Proofs.Ytlabjemjhokcaaa
open Go.RowKit
set_option linter.unusedVariables false

def Stay (N : Nat) (w w' : World) : Prop := N ≤ w'.heap.size ∧ Below N w w'
def LenPost (N n : Nat) (w : World) (e : Ending) (w' : World) : Prop := ∃ a cap, e = .returned (.slice a n cap) ∧ n ≤ 5 ∧ Stay N w w'
theorem len_post {N n : Nat} {l : List Int} {w w' : World} {e : Ending} (h : N ≤ w.heap.size) (hl : l.length = n) (h5 : n ≤ 5) (hp : LeftPost l w e w') : LenPost N n w e w' := by
  obtain ⟨v, he, hs, hb⟩ := hp
  obtain ⟨a, cap, rfl, _⟩ := hs.form
  exact ⟨a, cap, by rw [he, hl], h5, Nat.le_trans h hb.size, hb.mono h⟩
theorem left_len0 : ∀ b1 b2 b3 b4 : Bool, (leftK (pB true b1 b2 b3 b4) 5).length = (leftK (pB false b1 b2 b3 b4) 5).length + 1 := by decide
theorem left_len1 : ∀ b0 b2 b3 b4 : Bool, (leftK (pB b0 true b2 b3 b4) 5).length = (leftK (pB b0 false b2 b3 b4) 5).length + 1 := by decide
theorem left_len2 : ∀ b0 b1 b3 b4 : Bool, (leftK (pB b0 b1 true b3 b4) 5).length = (leftK (pB b0 b1 false b3 b4) 5).length + 1 := by decide
theorem left_len3 : ∀ b0 b1 b2 b4 : Bool, (leftK (pB b0 b1 b2 true b4) 5).length = (leftK (pB b0 b1 b2 false b4) 5).length + 1 := by decide
theorem left_len4 : ∀ b0 b1 b2 b3 : Bool, (leftK (pB b0 b1 b2 b3 true) 5).length = (leftK (pB b0 b1 b2 b3 false) 5).length + 1 := by decide
theorem held_start {N : Nat} {w : World} (h : w.heap.size = N) : N ≤ w.drew.heap.size ∧ Below N w w.drew ∧ ∀ b o, b < N → w.drew.cell? ⟨b, o, none⟩ = w.cell? ⟨b, o, none⟩ :=
  ⟨by rw [← h]; exact Nat.le_refl _, below_drew' (Below.refl _ _), fun _ _ _ => rfl⟩
theorem held_next {N : Nat} {w w' w'' : World} {X : Prop} (h1 : N ≤ w'.heap.size ∧ Below N w w' ∧ X) (h : Stay N w' w'') : N ≤ w''.heap.size ∧ Below N w w'' ∧ ∀ b o, b < N → w''.cell? ⟨b, o, none⟩ = w.cell? ⟨b, o, none⟩ :=
  ⟨h.1, h1.2.1.trans h.2, fun b o hb => (h1.2.1.trans h.2).cell (p := ⟨b, o, none⟩) hb⟩
theorem bcell {N : Nat} {w w' : World} (h : Below N w w') : ∀ b o, b < N → w'.cell? ⟨b, o, none⟩ = w.cell? ⟨b, o, none⟩ := fun b o hb => h.cell (p := ⟨b, o, none⟩) hb
theorem pend_awake (w : World) : Calls Try.prog 49 #[] w fun x w' => x = .returned (.bool true) ∧ Below w.heap.size w w' := by
  go_enter Try.func49, Try.ntmps49
  go_wp2_with fail
  refine Calls.mono (of_any _ [1, 2] _ (SR.lit w _ #[.int .i64 1, .int .i64 2] 1 2 (by decide) rfl)) ?_
  simp
  rintro v w1 rfl hb1
  have k1 : Below w.heap.size w w1 := ((Below.refl _ _).alloc (Nat.le_refl _) _).trans (hb1.mono (by simp))
  clear hb1
  go_wp2_with fail
  refine Calls.mono (got1 _ _ _ _ _ _) ?_
  rintro v w2 ⟨rfl, hb2⟩
  have k2 : Below w.heap.size w w2 := k1.trans (hb2.mono k1.size)
  clear hb2 k1
  go_wp2_with fail
  have hl : leftK (pB false false true false false) 5 = [2] := by decide
  have cl := left_any false false true false false
  rw [hl] at cl
  refine Calls.mono (cl _) ?_
  rintro v w3 ⟨v, rfl, hs, hb3⟩
  obtain ⟨ad, cap, rfl, -, -⟩ := hs.form
  obtain ⟨b, off, rfl, hb, hc⟩ := hs.int (by decide)
  have hc0 : w3.cell? ⟨b, off, none⟩ = some (.int .i64 2) := hc 0 (by decide)
  have hp : w3.heap[w2.heap.size]? = some (.cells #[.bool false, .bool false, .bool true, .bool false, .bool false] 71) := below_at hb3 (by simp) (heap_alloc_self _ _)
  have q0 : w3.cell? ⟨w2.heap.size, 0, none⟩ = some (.bool false) := by simp [World.cell?, hp]
  have q1 : w3.cell? ⟨w2.heap.size, 1, none⟩ = some (.bool false) := by simp [World.cell?, hp]
  have q2 : w3.cell? ⟨w2.heap.size, 2, none⟩ = some (.bool true) := by simp [World.cell?, hp]
  have q3 : w3.cell? ⟨w2.heap.size, 3, none⟩ = some (.bool false) := by simp [World.cell?, hp]
  have q4 : w3.cell? ⟨w2.heap.size, 4, none⟩ = some (.bool false) := by simp [World.cell?, hp]
  have k3 : Below w.heap.size w w3 := (k2.alloc k2.size _).trans (hb3.mono (by have := k2.size; simp; omega))
  clear hs hb3 hc k2 hp cl hl
  go_wp2_with fail
  refine Calls.mono (done_any _ _ _ _ _ _) ?_
  rintro v w4 ⟨rfl, hb4⟩
  have k4 : Below w.heap.size w w4 := k3.trans (hb4.mono k3.size)
  clear hb4 k3
  go_wp2_with fail
  go_ret
  exact ⟨rfl, k4⟩
set_option maxHeartbeats 12800000 in
set_option maxRecDepth 20000 in
theorem once_law (a : Option Addr) (len cap : Nat) (zs : List Int) (n : Int) (w : World) (hr : RowOf .i64 w a len cap zs) (hn : (Lit.int .i64 n).wf = true) :
    Calls Try.prog 10 #[.slice a len cap, .int .i64 n] w fun v w' => v = .returned (.bool true) ∧ Below w.heap.size w w' := by
  obtain ⟨i0, hi, hz0, hz1, hz2⟩ := info_parts info_i64
  obtain ⟨hsr, hlz⟩ := SR.row hr
  have hm7 := mask7 n
  have hx : 0 ≤ n % 8 ∧ n % 8 ≤ 7 := by omega
  generalize n % 8 = X at *
  obtain ⟨hx0, hx7⟩ := hx
  obtain ⟨_, _, he, hlc, hcm⟩ := hsr.form
  cases he
  unfold maxLen at hcm
  have HS := Lib.hid hsr
  have HZ := Lib.hid hlz
  clear hsr hlz hr hn
  go_enter Try.func10, Try.ntmps10
  go_upto_region 1 with fail
  go_cut [5] (fun s wx => (s = .int .i64 0 ∨ s = .int .i64 1 ∨ s = .int .i64 2 ∨ s = .int .i64 3 ∨ s = .int .i64 4) ∧ wx = w)
  case first =>
    have hX : X = 0 ∨ X = 1 ∨ X = 2 ∨ X = 3 ∨ X = 4 ∨ X = 5 ∨ X = 6 ∨ X = 7 := by omega
    clear hx0 hx7
    rcases hX with rfl | rfl | rfl | rfl | rfl | rfl | rfl | rfl
    all_goals
      go_wp2_with fail
      go_meet
      exact ⟨by simp, rfl⟩
  case rest =>
    clear hm7 hx0 hx7
    obtain ⟨hk, rfl⟩ := hcut
    have hmn : (if (20 : Int) < (len : Int) then (20 : Int) else (len : Int)) = ((min len 20 : Nat) : Int) := by split <;> omega
    have hml : min len 20 ≤ len := by omega
    have hm20 : min len 20 ≤ 20 := by omega
    obtain ⟨L, hL⟩ : ∃ L, L = (zs.take len).take (min len 20) := ⟨_, rfl⟩
    have hf := HS.out.front (min len 20) hml
    rw [nCells_take, ← hL] at hf
    have hLl : L.length = min len 20 := by rw [hL, List.length_take, HZ.out]; omega
    generalize min len 20 = m at *
    have HF := Lib.hid hf
    have HLL := Lib.hid hLl
    have hL1 : L.length ≤ 20 := by omega
    clear hf hL hLl HS HZ
    rcases hk with rfl | rfl | rfl | rfl | rfl
    · have hmem : decide ((0 : Int) ∈ L ++ [0]) = true := by simp
      have own0 : (wc.alloc (.cells #[] 3)).ownsRow wc.heap.size 3 1 (.slice (some ⟨wc.heap.size, 0, none⟩) 0 0) 0 [] := World.ownsRow_made (size := 1) wc #[] 0 (Nat.le_refl _) (Nat.zero_le _) rfl
      have HO := Lib.hid own0
      have HM := Lib.hid hmem
      clear own0 hmem
      go_wp2_with (at_builtin; (refine wp_app Try.underlying22 hi hz0 hz1 hz2 rfl (by decide) rfl (.tmp 14) (.tmp 19) rfl wc.heap.size _ _ _ rfl HO.out _ m (nCells L) rfl (HF.out.below (Below.alloc (Below.refl _ _) (Nat.le_refl _) (.cells #[] 3))) (nCells_one _) ?c1 ?c2 ?c3 ?_))
      case c1 => unfold maxLen; omega
      case c2 => omega
      case c3 => simp
      intro v1 w1 own1 hg1
      have hb1 : Below wc.heap.size wc w1 := below_app ((Below.refl _ _).alloc (Nat.le_refl _) _) hg1 HO.out (Nat.le_refl _) (by simp)
      have HO1 := Lib.hid own1
      have hs1 := hb1.size
      have HB1 := Lib.hid hb1
      clear own1 hg1 hb1 HO
      go_wp2_with (at_builtin; (refine wp_app Try.underlying22 hi hz0 hz1 hz2 rfl (by decide) rfl (.tmp 20) (.tmp 22) rfl wc.heap.size _ _ _ rfl (HO1.out.alloc (.cells #[.int .i64 0] 3)) _ 1 [.int .i64 0] rfl (SR.lit _ _ #[.int .i64 0] 1 1 (by decide) rfl) ?c1 ?c2 ?c3 ?c4 ?_))
      case c1 => intro y hy; simp at hy; subst hy; rfl
      case c2 => unfold maxLen; omega
      case c3 => omega
      case c4 => simp; omega
      intro v2 w2 own2 hg2
      have hb2 : Below wc.heap.size wc w2 := below_app (HB1.out.alloc hs1 _) hg2 (HO1.out.alloc _) (Nat.le_refl _) (by simp; omega)
      have hsr2 : SR w2 v2 1 (L ++ [(0 : Int)]).length (nCells (L ++ [(0 : Int)])) := by
        have := SR.owns own2
        rw [List.length_append, HLL.out]
        simpa [nCells] using this
      have cof := of_any v2 (L ++ [(0 : Int)]) w2 hsr2
      rw [HM.out] at cof
      generalize decide ((1 : Int) ∈ L ++ [0]) = b1 at cof
      generalize decide ((2 : Int) ∈ L ++ [0]) = b2 at cof
      generalize decide ((3 : Int) ∈ L ++ [0]) = b3 at cof
      generalize decide ((4 : Int) ∈ L ++ [0]) = b4 at cof
      have hs2 := hb2.size
      have HB2 := Lib.hid hb2
      clear own2 hg2 hb2 HO1 HB1 hsr2 HM
      go_wp2_with fail
      refine Calls.mono cof ?_
      rintro v w3 ⟨rfl, hb3⟩
      have hb3' : Below wc.heap.size wc w3 := HB2.out.trans (hb3.mono hs2)
      have hs3 := hb3'.size
      have HB3 := Lib.hid hb3'
      clear hb3 hb3' HB2 cof
      go_wp2_with fail
      refine Calls.mono (got0 true b1 b2 b3 b4 _) ?_
      rintro v w4 ⟨rfl, hb4⟩
      have p4 : w4.heap[w3.heap.size]? = some (.cells #[.bool true, .bool b1, .bool b2, .bool b3, .bool b4] 71) := below_at hb4 (by simp) (heap_alloc_self _ _)
      have hb4' : Below wc.heap.size wc w4 := (HB3.out.alloc hs3 _).trans (hb4.mono (by simp; omega))
      have hs4 := hb4'.size
      have l4 : w3.heap.size < w4.heap.size := lt_heap p4
      have HB4 := Lib.hid hb4'
      have HP4 := Lib.hid p4
      clear hb4 hb4' HB3 p4
      go_wp2_with fail
      refine Calls.mono (got0 false b1 b2 b3 b4 _) ?_
      rintro v w5 ⟨rfl, hb5⟩
      have q5 : w5.heap[w4.heap.size]? = some (.cells #[.bool false, .bool b1, .bool b2, .bool b3, .bool b4] 71) := below_at hb5 (by simp) (heap_alloc_self _ _)
      have p5 : w5.heap[w3.heap.size]? = some (.cells #[.bool true, .bool b1, .bool b2, .bool b3, .bool b4] 71) := below_at hb5 (by simp; omega) (by rw [Below.heap_alloc _ _ _ l4]; exact HP4.out)
      have hb5' : Below wc.heap.size wc w5 := (HB4.out.alloc hs4 _).trans (hb5.mono (by simp; omega))
      have hs5 := hb5'.size
      have l5 : w4.heap.size < w5.heap.size := lt_heap q5
      have HB5 := Lib.hid hb5'
      have HP5 := Lib.hid p5
      have HQ5 := Lib.hid q5
      clear hb5 hb5' HB4 HP4 p5 q5
      go_wp2_with fail
      have r6 : (w5.alloc (.cells #[.bool false, .bool b1, .bool b2, .bool b3, .bool b4] 71)).heap[w5.heap.size]? = some (.cells #[.bool false, .bool b1, .bool b2, .bool b3, .bool b4] 71) := heap_alloc_self _ _
      have q6 : (w5.alloc (.cells #[.bool false, .bool b1, .bool b2, .bool b3, .bool b4] 71)).heap[w4.heap.size]? = some (.cells #[.bool false, .bool b1, .bool b2, .bool b3, .bool b4] 71) := by rw [Below.heap_alloc _ _ _ l5]; exact HQ5.out
      have p6 : (w5.alloc (.cells #[.bool false, .bool b1, .bool b2, .bool b3, .bool b4] 71)).heap[w3.heap.size]? = some (.cells #[.bool true, .bool b1, .bool b2, .bool b3, .bool b4] 71) := by rw [Below.heap_alloc _ _ _ (by omega)]; exact HP5.out
      have b6 : Below wc.heap.size wc (w5.alloc (.cells #[.bool false, .bool b1, .bool b2, .bool b3, .bool b4] 71)) := HB5.out.alloc hs5 _
      clear HP5 HQ5 HB5 l4 l5 hs1 hs2 hs3 hs4 hs5
      generalize w5.alloc (.cells #[.bool false, .bool b1, .bool b2, .bool b3, .bool b4] 71) = w6 at *
      generalize w5.heap.size = Br at *
      generalize w4.heap.size = Bq at *
      generalize w3.heap.size = Bp at *
      have hR := lt_heap r6
      have hQ := lt_heap q6
      have hP := lt_heap p6
      have h6 := b6.size
      obtain ⟨N, hN⟩ : ∃ N, w6.heap.size = N := ⟨_, rfl⟩
      have HN := Lib.hid hN
      rw [hN] at hR hQ hP h6
      clear hN
      have HB6 := Lib.hid b6
      clear b6
      have ca : ∀ w', N ≤ w'.heap.size → Calls Try.prog 49 #[] w' fun x w'' => x = .returned (.bool true) ∧ Stay N w' w'' := fun w' h => (pend_awake w').mono fun e w'' ⟨he, hw⟩ => ⟨he, Nat.le_trans h hw.size, hw.mono h⟩
      obtain ⟨q, hlq⟩ : ∃ q, (leftK (pB false b1 b2 b3 b4) 5).length = q := ⟨_, rfl⟩
      have hlp : (leftK (pB true b1 b2 b3 b4) 5).length = q + 1 := by rw [← hlq]; exact left_len0 b1 b2 b3 b4
      have hq5 := leftK_le (pB true b1 b2 b3 b4) 5
      rw [hlp] at hq5
      have cp : ∀ w', N ≤ w'.heap.size → Calls Try.prog 47 #[.agg #[.bool true, .bool b1, .bool b2, .bool b3, .bool b4]] w' (LenPost N (q + 1) w') := fun w' h => (left_any true b1 b2 b3 b4 w').mono fun e w'' hp => len_post h hlp hq5 hp
      have cq : ∀ w', N ≤ w'.heap.size → Calls Try.prog 47 #[.agg #[.bool false, .bool b1, .bool b2, .bool b3, .bool b4]] w' (LenPost N q w') := fun w' h => (left_any false b1 b2 b3 b4 w').mono fun e w'' hp => len_post h hlq (by omega) hp
      have hw : IntKind.i64.wrap ((q : Int) + 1) = (q : Int) + 1 := IntWalk.i64_in _ (by omega)
      clear hlp hlq
      have p_0 : w6.cell? ⟨Bp, 0, none⟩ = some (.bool true) := by simp [World.cell?, p6]
      have p_1 : w6.cell? ⟨Bp, 1, none⟩ = some (.bool b1) := by simp [World.cell?, p6]
      have p_2 : w6.cell? ⟨Bp, 2, none⟩ = some (.bool b2) := by simp [World.cell?, p6]
      have p_3 : w6.cell? ⟨Bp, 3, none⟩ = some (.bool b3) := by simp [World.cell?, p6]
      have p_4 : w6.cell? ⟨Bp, 4, none⟩ = some (.bool b4) := by simp [World.cell?, p6]
      have q_0 : w6.cell? ⟨Bq, 0, none⟩ = some (.bool false) := by simp [World.cell?, q6]
      have q_1 : w6.cell? ⟨Bq, 1, none⟩ = some (.bool b1) := by simp [World.cell?, q6]
      have q_2 : w6.cell? ⟨Bq, 2, none⟩ = some (.bool b2) := by simp [World.cell?, q6]
      have q_3 : w6.cell? ⟨Bq, 3, none⟩ = some (.bool b3) := by simp [World.cell?, q6]
      have q_4 : w6.cell? ⟨Bq, 4, none⟩ = some (.bool b4) := by simp [World.cell?, q6]
      have r_0 : w6.cell? ⟨Br, 0, none⟩ = some (.bool false) := by simp [World.cell?, r6]
      have r_1 : w6.cell? ⟨Br, 1, none⟩ = some (.bool b1) := by simp [World.cell?, r6]
      have r_2 : w6.cell? ⟨Br, 2, none⟩ = some (.bool b2) := by simp [World.cell?, r6]
      have r_3 : w6.cell? ⟨Br, 3, none⟩ = some (.bool b3) := by simp [World.cell?, r6]
      have r_4 : w6.cell? ⟨Br, 4, none⟩ = some (.bool b4) := by simp [World.cell?, r6]
      clear p6 q6 r6
      have hq : ∀ w, _ := fun w => (pend_eq false b1 b2 b3 b4 false b1 b2 b3 b4 w).1
      simp only [beq_self_eq_true, Bool.and_self] at hq
      have hg := pguard
      go_region_held3 (fun w' => N ≤ w'.heap.size ∧ Below N w6 w' ∧ ∀ b o, b < N → w'.cell? ⟨b, o, none⟩ = w6.cell? ⟨b, o, none⟩) (first | exact held_start HN.out | exact held_next (by assumption) (by assumption)) (first | (go_at_call 49; refine Calls.mono (ca _ (And.left (by assumption))) ?_; rintro e wz ⟨rfl, hz⟩) | (go_at_call_of 47 (Value.agg #[.bool true, .bool b1, .bool b2, .bool b3, .bool b4]); refine Calls.mono (cp _ (And.left (by assumption))) ?_; rintro e wz ⟨a1, cap1, rfl, hn1, hz⟩) | (go_at_call_of 47 (Value.agg #[.bool false, .bool b1, .bool b2, .bool b3, .bool b4]); refine Calls.mono (cq _ (And.left (by assumption))) ?_; rintro e wz ⟨a2, cap2, rfl, hn2, hz⟩))
      rename_i hfin
      have FIN := Lib.hid hfin.2.1
      clear hfin
      go_wp2_with fail
      go_ret
      exact ⟨ret_bool (by simp), HB6.out.trans (FIN.out.mono h6)⟩
    · have hmem : decide ((1 : Int) ∈ L ++ [1]) = true := by simp
      have own0 : (wc.alloc (.cells #[] 3)).ownsRow wc.heap.size 3 1 (.slice (some ⟨wc.heap.size, 0, none⟩) 0 0) 0 [] := World.ownsRow_made (size := 1) wc #[] 0 (Nat.le_refl _) (Nat.zero_le _) rfl
      have HO := Lib.hid own0
      have HM := Lib.hid hmem
      clear own0 hmem
      go_wp2_with (at_builtin; (refine wp_app Try.underlying22 hi hz0 hz1 hz2 rfl (by decide) rfl (.tmp 14) (.tmp 19) rfl wc.heap.size _ _ _ rfl HO.out _ m (nCells L) rfl (HF.out.below (Below.alloc (Below.refl _ _) (Nat.le_refl _) (.cells #[] 3))) (nCells_one _) ?c1 ?c2 ?c3 ?_))
      case c1 => unfold maxLen; omega
      case c2 => omega
      case c3 => simp
      intro v1 w1 own1 hg1
      have hb1 : Below wc.heap.size wc w1 := below_app ((Below.refl _ _).alloc (Nat.le_refl _) _) hg1 HO.out (Nat.le_refl _) (by simp)
      have HO1 := Lib.hid own1
      have hs1 := hb1.size
      have HB1 := Lib.hid hb1
      clear own1 hg1 hb1 HO
      go_wp2_with (at_builtin; (refine wp_app Try.underlying22 hi hz0 hz1 hz2 rfl (by decide) rfl (.tmp 20) (.tmp 22) rfl wc.heap.size _ _ _ rfl (HO1.out.alloc (.cells #[.int .i64 1] 3)) _ 1 [.int .i64 1] rfl (SR.lit _ _ #[.int .i64 1] 1 1 (by decide) rfl) ?c1 ?c2 ?c3 ?c4 ?_))
      case c1 => intro y hy; simp at hy; subst hy; rfl
      case c2 => unfold maxLen; omega
      case c3 => omega
      case c4 => simp; omega
      intro v2 w2 own2 hg2
      have hb2 : Below wc.heap.size wc w2 := below_app (HB1.out.alloc hs1 _) hg2 (HO1.out.alloc _) (Nat.le_refl _) (by simp; omega)
      have hsr2 : SR w2 v2 1 (L ++ [(1 : Int)]).length (nCells (L ++ [(1 : Int)])) := by
        have := SR.owns own2
        rw [List.length_append, HLL.out]
        simpa [nCells] using this
      have cof := of_any v2 (L ++ [(1 : Int)]) w2 hsr2
      rw [HM.out] at cof
      generalize decide ((0 : Int) ∈ L ++ [1]) = b0 at cof
      generalize decide ((2 : Int) ∈ L ++ [1]) = b2 at cof
      generalize decide ((3 : Int) ∈ L ++ [1]) = b3 at cof
      generalize decide ((4 : Int) ∈ L ++ [1]) = b4 at cof
      have hs2 := hb2.size
      have HB2 := Lib.hid hb2
      clear own2 hg2 hb2 HO1 HB1 hsr2 HM
      go_wp2_with fail
      refine Calls.mono cof ?_
      rintro v w3 ⟨rfl, hb3⟩
      have hb3' : Below wc.heap.size wc w3 := HB2.out.trans (hb3.mono hs2)
      have hs3 := hb3'.size
      have HB3 := Lib.hid hb3'
      clear hb3 hb3' HB2 cof
      go_wp2_with fail
      refine Calls.mono (got1 b0 true b2 b3 b4 _) ?_
      rintro v w4 ⟨rfl, hb4⟩
      have p4 : w4.heap[w3.heap.size]? = some (.cells #[.bool b0, .bool true, .bool b2, .bool b3, .bool b4] 71) := below_at hb4 (by simp) (heap_alloc_self _ _)
      have hb4' : Below wc.heap.size wc w4 := (HB3.out.alloc hs3 _).trans (hb4.mono (by simp; omega))
      have hs4 := hb4'.size
      have l4 : w3.heap.size < w4.heap.size := lt_heap p4
      have HB4 := Lib.hid hb4'
      have HP4 := Lib.hid p4
      clear hb4 hb4' HB3 p4
      go_wp2_with fail
      refine Calls.mono (got1 b0 false b2 b3 b4 _) ?_
      rintro v w5 ⟨rfl, hb5⟩
      have q5 : w5.heap[w4.heap.size]? = some (.cells #[.bool b0, .bool false, .bool b2, .bool b3, .bool b4] 71) := below_at hb5 (by simp) (heap_alloc_self _ _)
      have p5 : w5.heap[w3.heap.size]? = some (.cells #[.bool b0, .bool true, .bool b2, .bool b3, .bool b4] 71) := below_at hb5 (by simp; omega) (by rw [Below.heap_alloc _ _ _ l4]; exact HP4.out)
      have hb5' : Below wc.heap.size wc w5 := (HB4.out.alloc hs4 _).trans (hb5.mono (by simp; omega))
      have hs5 := hb5'.size
      have l5 : w4.heap.size < w5.heap.size := lt_heap q5
      have HB5 := Lib.hid hb5'
      have HP5 := Lib.hid p5
      have HQ5 := Lib.hid q5
      clear hb5 hb5' HB4 HP4 p5 q5
      go_wp2_with fail
      have r6 : (w5.alloc (.cells #[.bool b0, .bool false, .bool b2, .bool b3, .bool b4] 71)).heap[w5.heap.size]? = some (.cells #[.bool b0, .bool false, .bool b2, .bool b3, .bool b4] 71) := heap_alloc_self _ _
      have q6 : (w5.alloc (.cells #[.bool b0, .bool false, .bool b2, .bool b3, .bool b4] 71)).heap[w4.heap.size]? = some (.cells #[.bool b0, .bool false, .bool b2, .bool b3, .bool b4] 71) := by rw [Below.heap_alloc _ _ _ l5]; exact HQ5.out
      have p6 : (w5.alloc (.cells #[.bool b0, .bool false, .bool b2, .bool b3, .bool b4] 71)).heap[w3.heap.size]? = some (.cells #[.bool b0, .bool true, .bool b2, .bool b3, .bool b4] 71) := by rw [Below.heap_alloc _ _ _ (by omega)]; exact HP5.out
      have b6 : Below wc.heap.size wc (w5.alloc (.cells #[.bool b0, .bool false, .bool b2, .bool b3, .bool b4] 71)) := HB5.out.alloc hs5 _
      clear HP5 HQ5 HB5 l4 l5 hs1 hs2 hs3 hs4 hs5
      generalize w5.alloc (.cells #[.bool b0, .bool false, .bool b2, .bool b3, .bool b4] 71) = w6 at *
      generalize w5.heap.size = Br at *
      generalize w4.heap.size = Bq at *
      generalize w3.heap.size = Bp at *
      have hR := lt_heap r6
      have hQ := lt_heap q6
      have hP := lt_heap p6
      have h6 := b6.size
      obtain ⟨N, hN⟩ : ∃ N, w6.heap.size = N := ⟨_, rfl⟩
      have HN := Lib.hid hN
      rw [hN] at hR hQ hP h6
      clear hN
      have HB6 := Lib.hid b6
      clear b6
      have ca : ∀ w', N ≤ w'.heap.size → Calls Try.prog 49 #[] w' fun x w'' => x = .returned (.bool true) ∧ Stay N w' w'' := fun w' h => (pend_awake w').mono fun e w'' ⟨he, hw⟩ => ⟨he, Nat.le_trans h hw.size, hw.mono h⟩
      obtain ⟨q, hlq⟩ : ∃ q, (leftK (pB b0 false b2 b3 b4) 5).length = q := ⟨_, rfl⟩
      have hlp : (leftK (pB b0 true b2 b3 b4) 5).length = q + 1 := by rw [← hlq]; exact left_len1 b0 b2 b3 b4
      have hq5 := leftK_le (pB b0 true b2 b3 b4) 5
      rw [hlp] at hq5
      have cp : ∀ w', N ≤ w'.heap.size → Calls Try.prog 47 #[.agg #[.bool b0, .bool true, .bool b2, .bool b3, .bool b4]] w' (LenPost N (q + 1) w') := fun w' h => (left_any b0 true b2 b3 b4 w').mono fun e w'' hp => len_post h hlp hq5 hp
      have cq : ∀ w', N ≤ w'.heap.size → Calls Try.prog 47 #[.agg #[.bool b0, .bool false, .bool b2, .bool b3, .bool b4]] w' (LenPost N q w') := fun w' h => (left_any b0 false b2 b3 b4 w').mono fun e w'' hp => len_post h hlq (by omega) hp
      have hw : IntKind.i64.wrap ((q : Int) + 1) = (q : Int) + 1 := IntWalk.i64_in _ (by omega)
      clear hlp hlq
      have p_0 : w6.cell? ⟨Bp, 0, none⟩ = some (.bool b0) := by simp [World.cell?, p6]
      have p_1 : w6.cell? ⟨Bp, 1, none⟩ = some (.bool true) := by simp [World.cell?, p6]
      have p_2 : w6.cell? ⟨Bp, 2, none⟩ = some (.bool b2) := by simp [World.cell?, p6]
      have p_3 : w6.cell? ⟨Bp, 3, none⟩ = some (.bool b3) := by simp [World.cell?, p6]
      have p_4 : w6.cell? ⟨Bp, 4, none⟩ = some (.bool b4) := by simp [World.cell?, p6]
      have q_0 : w6.cell? ⟨Bq, 0, none⟩ = some (.bool b0) := by simp [World.cell?, q6]
      have q_1 : w6.cell? ⟨Bq, 1, none⟩ = some (.bool false) := by simp [World.cell?, q6]
      have q_2 : w6.cell? ⟨Bq, 2, none⟩ = some (.bool b2) := by simp [World.cell?, q6]
      have q_3 : w6.cell? ⟨Bq, 3, none⟩ = some (.bool b3) := by simp [World.cell?, q6]
      have q_4 : w6.cell? ⟨Bq, 4, none⟩ = some (.bool b4) := by simp [World.cell?, q6]
      have r_0 : w6.cell? ⟨Br, 0, none⟩ = some (.bool b0) := by simp [World.cell?, r6]
      have r_1 : w6.cell? ⟨Br, 1, none⟩ = some (.bool false) := by simp [World.cell?, r6]
      have r_2 : w6.cell? ⟨Br, 2, none⟩ = some (.bool b2) := by simp [World.cell?, r6]
      have r_3 : w6.cell? ⟨Br, 3, none⟩ = some (.bool b3) := by simp [World.cell?, r6]
      have r_4 : w6.cell? ⟨Br, 4, none⟩ = some (.bool b4) := by simp [World.cell?, r6]
      clear p6 q6 r6
      have hq : ∀ w, _ := fun w => (pend_eq b0 false b2 b3 b4 b0 false b2 b3 b4 w).1
      simp only [beq_self_eq_true, Bool.and_self] at hq
      have hg := pguard
      go_region_held3 (fun w' => N ≤ w'.heap.size ∧ Below N w6 w' ∧ ∀ b o, b < N → w'.cell? ⟨b, o, none⟩ = w6.cell? ⟨b, o, none⟩) (first | exact held_start HN.out | exact held_next (by assumption) (by assumption)) (first | (go_at_call 49; refine Calls.mono (ca _ (And.left (by assumption))) ?_; rintro e wz ⟨rfl, hz⟩) | (go_at_call_of 47 (Value.agg #[.bool b0, .bool true, .bool b2, .bool b3, .bool b4]); refine Calls.mono (cp _ (And.left (by assumption))) ?_; rintro e wz ⟨a1, cap1, rfl, hn1, hz⟩) | (go_at_call_of 47 (Value.agg #[.bool b0, .bool false, .bool b2, .bool b3, .bool b4]); refine Calls.mono (cq _ (And.left (by assumption))) ?_; rintro e wz ⟨a2, cap2, rfl, hn2, hz⟩))
      rename_i hfin
      have FIN := Lib.hid hfin.2.1
      clear hfin
      go_wp2_with fail
      go_ret
      exact ⟨ret_bool (by simp), HB6.out.trans (FIN.out.mono h6)⟩
    · have hmem : decide ((2 : Int) ∈ L ++ [2]) = true := by simp
      have own0 : (wc.alloc (.cells #[] 3)).ownsRow wc.heap.size 3 1 (.slice (some ⟨wc.heap.size, 0, none⟩) 0 0) 0 [] := World.ownsRow_made (size := 1) wc #[] 0 (Nat.le_refl _) (Nat.zero_le _) rfl
      have HO := Lib.hid own0
      have HM := Lib.hid hmem
      clear own0 hmem
      go_wp2_with (at_builtin; (refine wp_app Try.underlying22 hi hz0 hz1 hz2 rfl (by decide) rfl (.tmp 14) (.tmp 19) rfl wc.heap.size _ _ _ rfl HO.out _ m (nCells L) rfl (HF.out.below (Below.alloc (Below.refl _ _) (Nat.le_refl _) (.cells #[] 3))) (nCells_one _) ?c1 ?c2 ?c3 ?_))
      case c1 => unfold maxLen; omega
      case c2 => omega
      case c3 => simp
      intro v1 w1 own1 hg1
      have hb1 : Below wc.heap.size wc w1 := below_app ((Below.refl _ _).alloc (Nat.le_refl _) _) hg1 HO.out (Nat.le_refl _) (by simp)
      have HO1 := Lib.hid own1
      have hs1 := hb1.size
      have HB1 := Lib.hid hb1
      clear own1 hg1 hb1 HO
      go_wp2_with (at_builtin; (refine wp_app Try.underlying22 hi hz0 hz1 hz2 rfl (by decide) rfl (.tmp 20) (.tmp 22) rfl wc.heap.size _ _ _ rfl (HO1.out.alloc (.cells #[.int .i64 2] 3)) _ 1 [.int .i64 2] rfl (SR.lit _ _ #[.int .i64 2] 1 1 (by decide) rfl) ?c1 ?c2 ?c3 ?c4 ?_))
      case c1 => intro y hy; simp at hy; subst hy; rfl
      case c2 => unfold maxLen; omega
      case c3 => omega
      case c4 => simp; omega
      intro v2 w2 own2 hg2
      have hb2 : Below wc.heap.size wc w2 := below_app (HB1.out.alloc hs1 _) hg2 (HO1.out.alloc _) (Nat.le_refl _) (by simp; omega)
      have hsr2 : SR w2 v2 1 (L ++ [(2 : Int)]).length (nCells (L ++ [(2 : Int)])) := by
        have := SR.owns own2
        rw [List.length_append, HLL.out]
        simpa [nCells] using this
      have cof := of_any v2 (L ++ [(2 : Int)]) w2 hsr2
      rw [HM.out] at cof
      generalize decide ((0 : Int) ∈ L ++ [2]) = b0 at cof
      generalize decide ((1 : Int) ∈ L ++ [2]) = b1 at cof
      generalize decide ((3 : Int) ∈ L ++ [2]) = b3 at cof
      generalize decide ((4 : Int) ∈ L ++ [2]) = b4 at cof
      have hs2 := hb2.size
      have HB2 := Lib.hid hb2
      clear own2 hg2 hb2 HO1 HB1 hsr2 HM
      go_wp2_with fail
      refine Calls.mono cof ?_
      rintro v w3 ⟨rfl, hb3⟩
      have hb3' : Below wc.heap.size wc w3 := HB2.out.trans (hb3.mono hs2)
      have hs3 := hb3'.size
      have HB3 := Lib.hid hb3'
      clear hb3 hb3' HB2 cof
      go_wp2_with fail
      refine Calls.mono (got2 b0 b1 true b3 b4 _) ?_
      rintro v w4 ⟨rfl, hb4⟩
      have p4 : w4.heap[w3.heap.size]? = some (.cells #[.bool b0, .bool b1, .bool true, .bool b3, .bool b4] 71) := below_at hb4 (by simp) (heap_alloc_self _ _)
      have hb4' : Below wc.heap.size wc w4 := (HB3.out.alloc hs3 _).trans (hb4.mono (by simp; omega))
      have hs4 := hb4'.size
      have l4 : w3.heap.size < w4.heap.size := lt_heap p4
      have HB4 := Lib.hid hb4'
      have HP4 := Lib.hid p4
      clear hb4 hb4' HB3 p4
      go_wp2_with fail
      refine Calls.mono (got2 b0 b1 false b3 b4 _) ?_
      rintro v w5 ⟨rfl, hb5⟩
      have q5 : w5.heap[w4.heap.size]? = some (.cells #[.bool b0, .bool b1, .bool false, .bool b3, .bool b4] 71) := below_at hb5 (by simp) (heap_alloc_self _ _)
      have p5 : w5.heap[w3.heap.size]? = some (.cells #[.bool b0, .bool b1, .bool true, .bool b3, .bool b4] 71) := below_at hb5 (by simp; omega) (by rw [Below.heap_alloc _ _ _ l4]; exact HP4.out)
      have hb5' : Below wc.heap.size wc w5 := (HB4.out.alloc hs4 _).trans (hb5.mono (by simp; omega))
      have hs5 := hb5'.size
      have l5 : w4.heap.size < w5.heap.size := lt_heap q5
      have HB5 := Lib.hid hb5'
      have HP5 := Lib.hid p5
      have HQ5 := Lib.hid q5
      clear hb5 hb5' HB4 HP4 p5 q5
      go_wp2_with fail
      have r6 : (w5.alloc (.cells #[.bool b0, .bool b1, .bool false, .bool b3, .bool b4] 71)).heap[w5.heap.size]? = some (.cells #[.bool b0, .bool b1, .bool false, .bool b3, .bool b4] 71) := heap_alloc_self _ _
      have q6 : (w5.alloc (.cells #[.bool b0, .bool b1, .bool false, .bool b3, .bool b4] 71)).heap[w4.heap.size]? = some (.cells #[.bool b0, .bool b1, .bool false, .bool b3, .bool b4] 71) := by rw [Below.heap_alloc _ _ _ l5]; exact HQ5.out
      have p6 : (w5.alloc (.cells #[.bool b0, .bool b1, .bool false, .bool b3, .bool b4] 71)).heap[w3.heap.size]? = some (.cells #[.bool b0, .bool b1, .bool true, .bool b3, .bool b4] 71) := by rw [Below.heap_alloc _ _ _ (by omega)]; exact HP5.out
      have b6 : Below wc.heap.size wc (w5.alloc (.cells #[.bool b0, .bool b1, .bool false, .bool b3, .bool b4] 71)) := HB5.out.alloc hs5 _
      clear HP5 HQ5 HB5 l4 l5 hs1 hs2 hs3 hs4 hs5
      generalize w5.alloc (.cells #[.bool b0, .bool b1, .bool false, .bool b3, .bool b4] 71) = w6 at *
      generalize w5.heap.size = Br at *
      generalize w4.heap.size = Bq at *
      generalize w3.heap.size = Bp at *
      have hR := lt_heap r6
      have hQ := lt_heap q6
      have hP := lt_heap p6
      have h6 := b6.size
      obtain ⟨N, hN⟩ : ∃ N, w6.heap.size = N := ⟨_, rfl⟩
      have HN := Lib.hid hN
      rw [hN] at hR hQ hP h6
      clear hN
      have HB6 := Lib.hid b6
      clear b6
      have ca : ∀ w', N ≤ w'.heap.size → Calls Try.prog 49 #[] w' fun x w'' => x = .returned (.bool true) ∧ Stay N w' w'' := fun w' h => (pend_awake w').mono fun e w'' ⟨he, hw⟩ => ⟨he, Nat.le_trans h hw.size, hw.mono h⟩
      obtain ⟨q, hlq⟩ : ∃ q, (leftK (pB b0 b1 false b3 b4) 5).length = q := ⟨_, rfl⟩
      have hlp : (leftK (pB b0 b1 true b3 b4) 5).length = q + 1 := by rw [← hlq]; exact left_len2 b0 b1 b3 b4
      have hq5 := leftK_le (pB b0 b1 true b3 b4) 5
      rw [hlp] at hq5
      have cp : ∀ w', N ≤ w'.heap.size → Calls Try.prog 47 #[.agg #[.bool b0, .bool b1, .bool true, .bool b3, .bool b4]] w' (LenPost N (q + 1) w') := fun w' h => (left_any b0 b1 true b3 b4 w').mono fun e w'' hp => len_post h hlp hq5 hp
      have cq : ∀ w', N ≤ w'.heap.size → Calls Try.prog 47 #[.agg #[.bool b0, .bool b1, .bool false, .bool b3, .bool b4]] w' (LenPost N q w') := fun w' h => (left_any b0 b1 false b3 b4 w').mono fun e w'' hp => len_post h hlq (by omega) hp
      have hw : IntKind.i64.wrap ((q : Int) + 1) = (q : Int) + 1 := IntWalk.i64_in _ (by omega)
      clear hlp hlq
      have p_0 : w6.cell? ⟨Bp, 0, none⟩ = some (.bool b0) := by simp [World.cell?, p6]
      have p_1 : w6.cell? ⟨Bp, 1, none⟩ = some (.bool b1) := by simp [World.cell?, p6]
      have p_2 : w6.cell? ⟨Bp, 2, none⟩ = some (.bool true) := by simp [World.cell?, p6]
      have p_3 : w6.cell? ⟨Bp, 3, none⟩ = some (.bool b3) := by simp [World.cell?, p6]
      have p_4 : w6.cell? ⟨Bp, 4, none⟩ = some (.bool b4) := by simp [World.cell?, p6]
      have q_0 : w6.cell? ⟨Bq, 0, none⟩ = some (.bool b0) := by simp [World.cell?, q6]
      have q_1 : w6.cell? ⟨Bq, 1, none⟩ = some (.bool b1) := by simp [World.cell?, q6]
      have q_2 : w6.cell? ⟨Bq, 2, none⟩ = some (.bool false) := by simp [World.cell?, q6]
      have q_3 : w6.cell? ⟨Bq, 3, none⟩ = some (.bool b3) := by simp [World.cell?, q6]
      have q_4 : w6.cell? ⟨Bq, 4, none⟩ = some (.bool b4) := by simp [World.cell?, q6]
      have r_0 : w6.cell? ⟨Br, 0, none⟩ = some (.bool b0) := by simp [World.cell?, r6]
      have r_1 : w6.cell? ⟨Br, 1, none⟩ = some (.bool b1) := by simp [World.cell?, r6]
      have r_2 : w6.cell? ⟨Br, 2, none⟩ = some (.bool false) := by simp [World.cell?, r6]
      have r_3 : w6.cell? ⟨Br, 3, none⟩ = some (.bool b3) := by simp [World.cell?, r6]
      have r_4 : w6.cell? ⟨Br, 4, none⟩ = some (.bool b4) := by simp [World.cell?, r6]
      clear p6 q6 r6
      have hq : ∀ w, _ := fun w => (pend_eq b0 b1 false b3 b4 b0 b1 false b3 b4 w).1
      simp only [beq_self_eq_true, Bool.and_self] at hq
      have hg := pguard
      go_region_held3 (fun w' => N ≤ w'.heap.size ∧ Below N w6 w' ∧ ∀ b o, b < N → w'.cell? ⟨b, o, none⟩ = w6.cell? ⟨b, o, none⟩) (first | exact held_start HN.out | exact held_next (by assumption) (by assumption)) (first | (go_at_call 49; refine Calls.mono (ca _ (And.left (by assumption))) ?_; rintro e wz ⟨rfl, hz⟩) | (go_at_call_of 47 (Value.agg #[.bool b0, .bool b1, .bool true, .bool b3, .bool b4]); refine Calls.mono (cp _ (And.left (by assumption))) ?_; rintro e wz ⟨a1, cap1, rfl, hn1, hz⟩) | (go_at_call_of 47 (Value.agg #[.bool b0, .bool b1, .bool false, .bool b3, .bool b4]); refine Calls.mono (cq _ (And.left (by assumption))) ?_; rintro e wz ⟨a2, cap2, rfl, hn2, hz⟩))
      rename_i hfin
      have FIN := Lib.hid hfin.2.1
      clear hfin
      go_wp2_with fail
      go_ret
      exact ⟨ret_bool (by simp), HB6.out.trans (FIN.out.mono h6)⟩
    · have hmem : decide ((3 : Int) ∈ L ++ [3]) = true := by simp
      have own0 : (wc.alloc (.cells #[] 3)).ownsRow wc.heap.size 3 1 (.slice (some ⟨wc.heap.size, 0, none⟩) 0 0) 0 [] := World.ownsRow_made (size := 1) wc #[] 0 (Nat.le_refl _) (Nat.zero_le _) rfl
      have HO := Lib.hid own0
      have HM := Lib.hid hmem
      clear own0 hmem
      go_wp2_with (at_builtin; (refine wp_app Try.underlying22 hi hz0 hz1 hz2 rfl (by decide) rfl (.tmp 14) (.tmp 19) rfl wc.heap.size _ _ _ rfl HO.out _ m (nCells L) rfl (HF.out.below (Below.alloc (Below.refl _ _) (Nat.le_refl _) (.cells #[] 3))) (nCells_one _) ?c1 ?c2 ?c3 ?_))
      case c1 => unfold maxLen; omega
      case c2 => omega
      case c3 => simp
      intro v1 w1 own1 hg1
      have hb1 : Below wc.heap.size wc w1 := below_app ((Below.refl _ _).alloc (Nat.le_refl _) _) hg1 HO.out (Nat.le_refl _) (by simp)
      have HO1 := Lib.hid own1
      have hs1 := hb1.size
      have HB1 := Lib.hid hb1
      clear own1 hg1 hb1 HO
      go_wp2_with (at_builtin; (refine wp_app Try.underlying22 hi hz0 hz1 hz2 rfl (by decide) rfl (.tmp 20) (.tmp 22) rfl wc.heap.size _ _ _ rfl (HO1.out.alloc (.cells #[.int .i64 3] 3)) _ 1 [.int .i64 3] rfl (SR.lit _ _ #[.int .i64 3] 1 1 (by decide) rfl) ?c1 ?c2 ?c3 ?c4 ?_))
      case c1 => intro y hy; simp at hy; subst hy; rfl
      case c2 => unfold maxLen; omega
      case c3 => omega
      case c4 => simp; omega
      intro v2 w2 own2 hg2
      have hb2 : Below wc.heap.size wc w2 := below_app (HB1.out.alloc hs1 _) hg2 (HO1.out.alloc _) (Nat.le_refl _) (by simp; omega)
      have hsr2 : SR w2 v2 1 (L ++ [(3 : Int)]).length (nCells (L ++ [(3 : Int)])) := by
        have := SR.owns own2
        rw [List.length_append, HLL.out]
        simpa [nCells] using this
      have cof := of_any v2 (L ++ [(3 : Int)]) w2 hsr2
      rw [HM.out] at cof
      generalize decide ((0 : Int) ∈ L ++ [3]) = b0 at cof
      generalize decide ((1 : Int) ∈ L ++ [3]) = b1 at cof
      generalize decide ((2 : Int) ∈ L ++ [3]) = b2 at cof
      generalize decide ((4 : Int) ∈ L ++ [3]) = b4 at cof
      have hs2 := hb2.size
      have HB2 := Lib.hid hb2
      clear own2 hg2 hb2 HO1 HB1 hsr2 HM
      go_wp2_with fail
      refine Calls.mono cof ?_
      rintro v w3 ⟨rfl, hb3⟩
      have hb3' : Below wc.heap.size wc w3 := HB2.out.trans (hb3.mono hs2)
      have hs3 := hb3'.size
      have HB3 := Lib.hid hb3'
      clear hb3 hb3' HB2 cof
      go_wp2_with fail
      refine Calls.mono (got3 b0 b1 b2 true b4 _) ?_
      rintro v w4 ⟨rfl, hb4⟩
      have p4 : w4.heap[w3.heap.size]? = some (.cells #[.bool b0, .bool b1, .bool b2, .bool true, .bool b4] 71) := below_at hb4 (by simp) (heap_alloc_self _ _)
      have hb4' : Below wc.heap.size wc w4 := (HB3.out.alloc hs3 _).trans (hb4.mono (by simp; omega))
      have hs4 := hb4'.size
      have l4 : w3.heap.size < w4.heap.size := lt_heap p4
      have HB4 := Lib.hid hb4'
      have HP4 := Lib.hid p4
      clear hb4 hb4' HB3 p4
      go_wp2_with fail
      refine Calls.mono (got3 b0 b1 b2 false b4 _) ?_
      rintro v w5 ⟨rfl, hb5⟩
      have q5 : w5.heap[w4.heap.size]? = some (.cells #[.bool b0, .bool b1, .bool b2, .bool false, .bool b4] 71) := below_at hb5 (by simp) (heap_alloc_self _ _)
      have p5 : w5.heap[w3.heap.size]? = some (.cells #[.bool b0, .bool b1, .bool b2, .bool true, .bool b4] 71) := below_at hb5 (by simp; omega) (by rw [Below.heap_alloc _ _ _ l4]; exact HP4.out)
      have hb5' : Below wc.heap.size wc w5 := (HB4.out.alloc hs4 _).trans (hb5.mono (by simp; omega))
      have hs5 := hb5'.size
      have l5 : w4.heap.size < w5.heap.size := lt_heap q5
      have HB5 := Lib.hid hb5'
      have HP5 := Lib.hid p5
      have HQ5 := Lib.hid q5
      clear hb5 hb5' HB4 HP4 p5 q5
      go_wp2_with fail
      have r6 : (w5.alloc (.cells #[.bool b0, .bool b1, .bool b2, .bool false, .bool b4] 71)).heap[w5.heap.size]? = some (.cells #[.bool b0, .bool b1, .bool b2, .bool false, .bool b4] 71) := heap_alloc_self _ _
      have q6 : (w5.alloc (.cells #[.bool b0, .bool b1, .bool b2, .bool false, .bool b4] 71)).heap[w4.heap.size]? = some (.cells #[.bool b0, .bool b1, .bool b2, .bool false, .bool b4] 71) := by rw [Below.heap_alloc _ _ _ l5]; exact HQ5.out
      have p6 : (w5.alloc (.cells #[.bool b0, .bool b1, .bool b2, .bool false, .bool b4] 71)).heap[w3.heap.size]? = some (.cells #[.bool b0, .bool b1, .bool b2, .bool true, .bool b4] 71) := by rw [Below.heap_alloc _ _ _ (by omega)]; exact HP5.out
      have b6 : Below wc.heap.size wc (w5.alloc (.cells #[.bool b0, .bool b1, .bool b2, .bool false, .bool b4] 71)) := HB5.out.alloc hs5 _
      clear HP5 HQ5 HB5 l4 l5 hs1 hs2 hs3 hs4 hs5
      generalize w5.alloc (.cells #[.bool b0, .bool b1, .bool b2, .bool false, .bool b4] 71) = w6 at *
      generalize w5.heap.size = Br at *
      generalize w4.heap.size = Bq at *
      generalize w3.heap.size = Bp at *
      have hR := lt_heap r6
      have hQ := lt_heap q6
      have hP := lt_heap p6
      have h6 := b6.size
      obtain ⟨N, hN⟩ : ∃ N, w6.heap.size = N := ⟨_, rfl⟩
      have HN := Lib.hid hN
      rw [hN] at hR hQ hP h6
      clear hN
      have HB6 := Lib.hid b6
      clear b6
      have ca : ∀ w', N ≤ w'.heap.size → Calls Try.prog 49 #[] w' fun x w'' => x = .returned (.bool true) ∧ Stay N w' w'' := fun w' h => (pend_awake w').mono fun e w'' ⟨he, hw⟩ => ⟨he, Nat.le_trans h hw.size, hw.mono h⟩
      obtain ⟨q, hlq⟩ : ∃ q, (leftK (pB b0 b1 b2 false b4) 5).length = q := ⟨_, rfl⟩
      have hlp : (leftK (pB b0 b1 b2 true b4) 5).length = q + 1 := by rw [← hlq]; exact left_len3 b0 b1 b2 b4
      have hq5 := leftK_le (pB b0 b1 b2 true b4) 5
      rw [hlp] at hq5
      have cp : ∀ w', N ≤ w'.heap.size → Calls Try.prog 47 #[.agg #[.bool b0, .bool b1, .bool b2, .bool true, .bool b4]] w' (LenPost N (q + 1) w') := fun w' h => (left_any b0 b1 b2 true b4 w').mono fun e w'' hp => len_post h hlp hq5 hp
      have cq : ∀ w', N ≤ w'.heap.size → Calls Try.prog 47 #[.agg #[.bool b0, .bool b1, .bool b2, .bool false, .bool b4]] w' (LenPost N q w') := fun w' h => (left_any b0 b1 b2 false b4 w').mono fun e w'' hp => len_post h hlq (by omega) hp
      have hw : IntKind.i64.wrap ((q : Int) + 1) = (q : Int) + 1 := IntWalk.i64_in _ (by omega)
      clear hlp hlq
      have p_0 : w6.cell? ⟨Bp, 0, none⟩ = some (.bool b0) := by simp [World.cell?, p6]
      have p_1 : w6.cell? ⟨Bp, 1, none⟩ = some (.bool b1) := by simp [World.cell?, p6]
      have p_2 : w6.cell? ⟨Bp, 2, none⟩ = some (.bool b2) := by simp [World.cell?, p6]
      have p_3 : w6.cell? ⟨Bp, 3, none⟩ = some (.bool true) := by simp [World.cell?, p6]
      have p_4 : w6.cell? ⟨Bp, 4, none⟩ = some (.bool b4) := by simp [World.cell?, p6]
      have q_0 : w6.cell? ⟨Bq, 0, none⟩ = some (.bool b0) := by simp [World.cell?, q6]
      have q_1 : w6.cell? ⟨Bq, 1, none⟩ = some (.bool b1) := by simp [World.cell?, q6]
      have q_2 : w6.cell? ⟨Bq, 2, none⟩ = some (.bool b2) := by simp [World.cell?, q6]
      have q_3 : w6.cell? ⟨Bq, 3, none⟩ = some (.bool false) := by simp [World.cell?, q6]
      have q_4 : w6.cell? ⟨Bq, 4, none⟩ = some (.bool b4) := by simp [World.cell?, q6]
      have r_0 : w6.cell? ⟨Br, 0, none⟩ = some (.bool b0) := by simp [World.cell?, r6]
      have r_1 : w6.cell? ⟨Br, 1, none⟩ = some (.bool b1) := by simp [World.cell?, r6]
      have r_2 : w6.cell? ⟨Br, 2, none⟩ = some (.bool b2) := by simp [World.cell?, r6]
      have r_3 : w6.cell? ⟨Br, 3, none⟩ = some (.bool false) := by simp [World.cell?, r6]
      have r_4 : w6.cell? ⟨Br, 4, none⟩ = some (.bool b4) := by simp [World.cell?, r6]
      clear p6 q6 r6
      have hq : ∀ w, _ := fun w => (pend_eq b0 b1 b2 false b4 b0 b1 b2 false b4 w).1
      simp only [beq_self_eq_true, Bool.and_self] at hq
      have hg := pguard
      go_region_held3 (fun w' => N ≤ w'.heap.size ∧ Below N w6 w' ∧ ∀ b o, b < N → w'.cell? ⟨b, o, none⟩ = w6.cell? ⟨b, o, none⟩) (first | exact held_start HN.out | exact held_next (by assumption) (by assumption)) (first | (go_at_call 49; refine Calls.mono (ca _ (And.left (by assumption))) ?_; rintro e wz ⟨rfl, hz⟩) | (go_at_call_of 47 (Value.agg #[.bool b0, .bool b1, .bool b2, .bool true, .bool b4]); refine Calls.mono (cp _ (And.left (by assumption))) ?_; rintro e wz ⟨a1, cap1, rfl, hn1, hz⟩) | (go_at_call_of 47 (Value.agg #[.bool b0, .bool b1, .bool b2, .bool false, .bool b4]); refine Calls.mono (cq _ (And.left (by assumption))) ?_; rintro e wz ⟨a2, cap2, rfl, hn2, hz⟩))
      rename_i hfin
      have FIN := Lib.hid hfin.2.1
      clear hfin
      go_wp2_with fail
      go_ret
      exact ⟨ret_bool (by simp), HB6.out.trans (FIN.out.mono h6)⟩
    · have hmem : decide ((4 : Int) ∈ L ++ [4]) = true := by simp
      have own0 : (wc.alloc (.cells #[] 3)).ownsRow wc.heap.size 3 1 (.slice (some ⟨wc.heap.size, 0, none⟩) 0 0) 0 [] := World.ownsRow_made (size := 1) wc #[] 0 (Nat.le_refl _) (Nat.zero_le _) rfl
      have HO := Lib.hid own0
      have HM := Lib.hid hmem
      clear own0 hmem
      go_wp2_with (at_builtin; (refine wp_app Try.underlying22 hi hz0 hz1 hz2 rfl (by decide) rfl (.tmp 14) (.tmp 19) rfl wc.heap.size _ _ _ rfl HO.out _ m (nCells L) rfl (HF.out.below (Below.alloc (Below.refl _ _) (Nat.le_refl _) (.cells #[] 3))) (nCells_one _) ?c1 ?c2 ?c3 ?_))
      case c1 => unfold maxLen; omega
      case c2 => omega
      case c3 => simp
      intro v1 w1 own1 hg1
      have hb1 : Below wc.heap.size wc w1 := below_app ((Below.refl _ _).alloc (Nat.le_refl _) _) hg1 HO.out (Nat.le_refl _) (by simp)
      have HO1 := Lib.hid own1
      have hs1 := hb1.size
      have HB1 := Lib.hid hb1
      clear own1 hg1 hb1 HO
      go_wp2_with (at_builtin; (refine wp_app Try.underlying22 hi hz0 hz1 hz2 rfl (by decide) rfl (.tmp 20) (.tmp 22) rfl wc.heap.size _ _ _ rfl (HO1.out.alloc (.cells #[.int .i64 4] 3)) _ 1 [.int .i64 4] rfl (SR.lit _ _ #[.int .i64 4] 1 1 (by decide) rfl) ?c1 ?c2 ?c3 ?c4 ?_))
      case c1 => intro y hy; simp at hy; subst hy; rfl
      case c2 => unfold maxLen; omega
      case c3 => omega
      case c4 => simp; omega
      intro v2 w2 own2 hg2
      have hb2 : Below wc.heap.size wc w2 := below_app (HB1.out.alloc hs1 _) hg2 (HO1.out.alloc _) (Nat.le_refl _) (by simp; omega)
      have hsr2 : SR w2 v2 1 (L ++ [(4 : Int)]).length (nCells (L ++ [(4 : Int)])) := by
        have := SR.owns own2
        rw [List.length_append, HLL.out]
        simpa [nCells] using this
      have cof := of_any v2 (L ++ [(4 : Int)]) w2 hsr2
      rw [HM.out] at cof
      generalize decide ((0 : Int) ∈ L ++ [4]) = b0 at cof
      generalize decide ((1 : Int) ∈ L ++ [4]) = b1 at cof
      generalize decide ((2 : Int) ∈ L ++ [4]) = b2 at cof
      generalize decide ((3 : Int) ∈ L ++ [4]) = b3 at cof
      have hs2 := hb2.size
      have HB2 := Lib.hid hb2
      clear own2 hg2 hb2 HO1 HB1 hsr2 HM
      go_wp2_with fail
      refine Calls.mono cof ?_
      rintro v w3 ⟨rfl, hb3⟩
      have hb3' : Below wc.heap.size wc w3 := HB2.out.trans (hb3.mono hs2)
      have hs3 := hb3'.size
      have HB3 := Lib.hid hb3'
      clear hb3 hb3' HB2 cof
      go_wp2_with fail
      refine Calls.mono (got4 b0 b1 b2 b3 true _) ?_
      rintro v w4 ⟨rfl, hb4⟩
      have p4 : w4.heap[w3.heap.size]? = some (.cells #[.bool b0, .bool b1, .bool b2, .bool b3, .bool true] 71) := below_at hb4 (by simp) (heap_alloc_self _ _)
      have hb4' : Below wc.heap.size wc w4 := (HB3.out.alloc hs3 _).trans (hb4.mono (by simp; omega))
      have hs4 := hb4'.size
      have l4 : w3.heap.size < w4.heap.size := lt_heap p4
      have HB4 := Lib.hid hb4'
      have HP4 := Lib.hid p4
      clear hb4 hb4' HB3 p4
      go_wp2_with fail
      refine Calls.mono (got4 b0 b1 b2 b3 false _) ?_
      rintro v w5 ⟨rfl, hb5⟩
      have q5 : w5.heap[w4.heap.size]? = some (.cells #[.bool b0, .bool b1, .bool b2, .bool b3, .bool false] 71) := below_at hb5 (by simp) (heap_alloc_self _ _)
      have p5 : w5.heap[w3.heap.size]? = some (.cells #[.bool b0, .bool b1, .bool b2, .bool b3, .bool true] 71) := below_at hb5 (by simp; omega) (by rw [Below.heap_alloc _ _ _ l4]; exact HP4.out)
      have hb5' : Below wc.heap.size wc w5 := (HB4.out.alloc hs4 _).trans (hb5.mono (by simp; omega))
      have hs5 := hb5'.size
      have l5 : w4.heap.size < w5.heap.size := lt_heap q5
      have HB5 := Lib.hid hb5'
      have HP5 := Lib.hid p5
      have HQ5 := Lib.hid q5
      clear hb5 hb5' HB4 HP4 p5 q5
      go_wp2_with fail
      have r6 : (w5.alloc (.cells #[.bool b0, .bool b1, .bool b2, .bool b3, .bool false] 71)).heap[w5.heap.size]? = some (.cells #[.bool b0, .bool b1, .bool b2, .bool b3, .bool false] 71) := heap_alloc_self _ _
      have q6 : (w5.alloc (.cells #[.bool b0, .bool b1, .bool b2, .bool b3, .bool false] 71)).heap[w4.heap.size]? = some (.cells #[.bool b0, .bool b1, .bool b2, .bool b3, .bool false] 71) := by rw [Below.heap_alloc _ _ _ l5]; exact HQ5.out
      have p6 : (w5.alloc (.cells #[.bool b0, .bool b1, .bool b2, .bool b3, .bool false] 71)).heap[w3.heap.size]? = some (.cells #[.bool b0, .bool b1, .bool b2, .bool b3, .bool true] 71) := by rw [Below.heap_alloc _ _ _ (by omega)]; exact HP5.out
      have b6 : Below wc.heap.size wc (w5.alloc (.cells #[.bool b0, .bool b1, .bool b2, .bool b3, .bool false] 71)) := HB5.out.alloc hs5 _
      clear HP5 HQ5 HB5 l4 l5 hs1 hs2 hs3 hs4 hs5
      generalize w5.alloc (.cells #[.bool b0, .bool b1, .bool b2, .bool b3, .bool false] 71) = w6 at *
      generalize w5.heap.size = Br at *
      generalize w4.heap.size = Bq at *
      generalize w3.heap.size = Bp at *
      have hR := lt_heap r6
      have hQ := lt_heap q6
      have hP := lt_heap p6
      have h6 := b6.size
      obtain ⟨N, hN⟩ : ∃ N, w6.heap.size = N := ⟨_, rfl⟩
      have HN := Lib.hid hN
      rw [hN] at hR hQ hP h6
      clear hN
      have HB6 := Lib.hid b6
      clear b6
      have ca : ∀ w', N ≤ w'.heap.size → Calls Try.prog 49 #[] w' fun x w'' => x = .returned (.bool true) ∧ Stay N w' w'' := fun w' h => (pend_awake w').mono fun e w'' ⟨he, hw⟩ => ⟨he, Nat.le_trans h hw.size, hw.mono h⟩
      obtain ⟨q, hlq⟩ : ∃ q, (leftK (pB b0 b1 b2 b3 false) 5).length = q := ⟨_, rfl⟩
      have hlp : (leftK (pB b0 b1 b2 b3 true) 5).length = q + 1 := by rw [← hlq]; exact left_len4 b0 b1 b2 b3
      have hq5 := leftK_le (pB b0 b1 b2 b3 true) 5
      rw [hlp] at hq5
      have cp : ∀ w', N ≤ w'.heap.size → Calls Try.prog 47 #[.agg #[.bool b0, .bool b1, .bool b2, .bool b3, .bool true]] w' (LenPost N (q + 1) w') := fun w' h => (left_any b0 b1 b2 b3 true w').mono fun e w'' hp => len_post h hlp hq5 hp
      have cq : ∀ w', N ≤ w'.heap.size → Calls Try.prog 47 #[.agg #[.bool b0, .bool b1, .bool b2, .bool b3, .bool false]] w' (LenPost N q w') := fun w' h => (left_any b0 b1 b2 b3 false w').mono fun e w'' hp => len_post h hlq (by omega) hp
      have hw : IntKind.i64.wrap ((q : Int) + 1) = (q : Int) + 1 := IntWalk.i64_in _ (by omega)
      clear hlp hlq
      have p_0 : w6.cell? ⟨Bp, 0, none⟩ = some (.bool b0) := by simp [World.cell?, p6]
      have p_1 : w6.cell? ⟨Bp, 1, none⟩ = some (.bool b1) := by simp [World.cell?, p6]
      have p_2 : w6.cell? ⟨Bp, 2, none⟩ = some (.bool b2) := by simp [World.cell?, p6]
      have p_3 : w6.cell? ⟨Bp, 3, none⟩ = some (.bool b3) := by simp [World.cell?, p6]
      have p_4 : w6.cell? ⟨Bp, 4, none⟩ = some (.bool true) := by simp [World.cell?, p6]
      have q_0 : w6.cell? ⟨Bq, 0, none⟩ = some (.bool b0) := by simp [World.cell?, q6]
      have q_1 : w6.cell? ⟨Bq, 1, none⟩ = some (.bool b1) := by simp [World.cell?, q6]
      have q_2 : w6.cell? ⟨Bq, 2, none⟩ = some (.bool b2) := by simp [World.cell?, q6]
      have q_3 : w6.cell? ⟨Bq, 3, none⟩ = some (.bool b3) := by simp [World.cell?, q6]
      have q_4 : w6.cell? ⟨Bq, 4, none⟩ = some (.bool false) := by simp [World.cell?, q6]
      have r_0 : w6.cell? ⟨Br, 0, none⟩ = some (.bool b0) := by simp [World.cell?, r6]
      have r_1 : w6.cell? ⟨Br, 1, none⟩ = some (.bool b1) := by simp [World.cell?, r6]
      have r_2 : w6.cell? ⟨Br, 2, none⟩ = some (.bool b2) := by simp [World.cell?, r6]
      have r_3 : w6.cell? ⟨Br, 3, none⟩ = some (.bool b3) := by simp [World.cell?, r6]
      have r_4 : w6.cell? ⟨Br, 4, none⟩ = some (.bool false) := by simp [World.cell?, r6]
      clear p6 q6 r6
      have hq : ∀ w, _ := fun w => (pend_eq b0 b1 b2 b3 false b0 b1 b2 b3 false w).1
      simp only [beq_self_eq_true, Bool.and_self] at hq
      have hg := pguard
      go_region_held3 (fun w' => N ≤ w'.heap.size ∧ Below N w6 w' ∧ ∀ b o, b < N → w'.cell? ⟨b, o, none⟩ = w6.cell? ⟨b, o, none⟩) (first | exact held_start HN.out | exact held_next (by assumption) (by assumption)) (first | (go_at_call 49; refine Calls.mono (ca _ (And.left (by assumption))) ?_; rintro e wz ⟨rfl, hz⟩) | (go_at_call_of 47 (Value.agg #[.bool b0, .bool b1, .bool b2, .bool b3, .bool true]); refine Calls.mono (cp _ (And.left (by assumption))) ?_; rintro e wz ⟨a1, cap1, rfl, hn1, hz⟩) | (go_at_call_of 47 (Value.agg #[.bool b0, .bool b1, .bool b2, .bool b3, .bool false]); refine Calls.mono (cq _ (And.left (by assumption))) ?_; rintro e wz ⟨a2, cap2, rfl, hn2, hz⟩))
      rename_i hfin
      have FIN := Lib.hid hfin.2.1
      clear hfin
      go_wp2_with fail
      go_ret
      exact ⟨ret_bool (by simp), HB6.out.trans (FIN.out.mono h6)⟩
end Go.Proofs.Ytlabjemjhokcaaa
