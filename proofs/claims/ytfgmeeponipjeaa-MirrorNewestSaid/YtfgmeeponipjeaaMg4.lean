/-
  Several texts, laid together.
-/
import Derived.Test.YtfgmeeponipjeaaMg3
/-
  An arc: a number that was kept once is kept again; the room that a number needs (again, comes).
-/

namespace Go.Proofs.Ytfgmeeponipjeaa
open Go.RowKit
set_option linter.unusedVariables false
set_option linter.unusedSimpArgs false

theorem sMove_len (f t : Nat) (L : Nat → List Int) (m : Nat) (hf : f < 4) (ht : t < 4) (h : ∀ i, i < 4 → (L i).length ≤ m) : ∀ i, i < 4 → ((sMove f t L).1 i).length ≤ m + 1 := by
  intro i hi
  unfold sMove
  split
  · exact Nat.le_succ_of_le (h i hi)
  · simp only
    by_cases h1 : i = t
    · subst h1
      rw [upd_at]
      have := List.length_erase_le (a := by assumption) (l := L i)
      have := h i hi
      simp only [List.length_cons]
      omega
    · rw [upd_ne _ _ h1]
      by_cases h2 : i = f
      · subst h2
        rw [upd_at, List.length_dropLast]
        have := h i hi
        omega
      · rw [upd_ne _ _ h2]
        exact Nat.le_succ_of_le (h i hi)
theorem sRoom_len (W : Int) (was : Bool) (L : Nat → List Int) (m : Nat) (h : ∀ i, i < 4 → (L i).length ≤ m) : ∀ i, i < 4 → ((sRoom W was L).1 i).length ≤ m + 1 := by
  intro i hi
  unfold sRoom
  split
  · exact sMove_len 0 2 L m (by decide) (by decide) h i hi
  · exact sMove_len 1 3 L m (by decide) (by decide) h i hi
def sAgain (W n : Int) (was : Nat) (L : Nat → List Int) : (Nat → List Int) × Option Int :=
  let r := sRoom W (was == 3) L
  (upd (upd r.1 was ((r.1 was).erase n)) 1 (n :: (r.1 1).erase n), r.2)
set_option maxHeartbeats 1600000 in
theorem aagain2 (n : Int) (w : World) (N a : Nat) (R W : Int) (V : Nat → Value) (L : Nat → List Int) (h : ArcAt w N a R W V L) (hl : ∀ i, i < 4 → (L i).length ≤ 99999) :
    Calls Try.prog 100 #[.pointer (some ⟨a, 0, none⟩), .int .i64 n, .int .i64 2] w fun e w' => e = .returned (outV (sAgain W n 2 L).2) ∧ ∃ V', ArcAt w' N a R W V' (sAgain W n 2 L).1 ∧ ArcKept w w' N a V V' := by
  have c := aroom false w N a R W V L h (fun i hi => Nat.le_trans (hl i hi) (by decide))
  have hrl := sRoom_len W false L 99999 hl
  have hst : sAgain W n 2 L = (upd (upd (sRoom W false L).1 2 (((sRoom W false L).1 2).erase n)) 1 (n :: ((sRoom W false L).1 1).erase n), (sRoom W false L).2) := rfl
  rw [hst]
  clear hst
  generalize sRoom W false L = r at *
  obtain ⟨L1, o⟩ := r
  simp only at hrl c ⊢
  have h2 : (L1 2).length ≤ 1000000 := Nat.le_trans (hrl 2 (by decide)) (by decide)
  have h1 : (L1 1).length ≤ 1000000 := Nat.le_trans (hrl 1 (by decide)) (by decide)
  clear hl hrl h
  unfold outV at *
  go_enter Try.func100, Try.ntmps100
  go_wp2_with fail
  refine Calls.mono c ?_
  rintro e w1 ⟨rfl, V1, hA1, hK1⟩
  have cd := odropA (L1 2) n w1 N a _ _ _ _ (hA1.ord 2 (by decide)) h2
  have HA1 := Lib.hid (And.intro hA1 hK1)
  clear hA1 hK1 c
  go_wp2_with fail
  refine Calls.mono cd ?_
  rintro e w2 ⟨rfl, v2, ho2, hk2⟩
  obtain ⟨hA2, hK2⟩ := HA1.out.1.step 2 (by decide) ho2 hk2
  have cu := ouseA (L1 1) n w2 N a _ _ _ _ (hA2.ord 1 (by decide)) h1
  have HA2 := Lib.hid (And.intro hA2 (HA1.out.2.trans hK2))
  clear hA2 hK2 ho2 hk2 cd HA1
  go_wp2_with fail
  refine Calls.mono cu ?_
  rintro e w3 ⟨rfl, v3, ho3, hk3⟩
  obtain ⟨hA3, hK3⟩ := HA2.out.1.step 1 (by decide) ho3 hk3
  clear ho3 hk3 cu
  go_wp2_with fail
  go_returns
  exact ⟨rfl, _, hA3, HA2.out.2.trans hK3⟩
set_option maxHeartbeats 1600000 in
theorem aagain3 (n : Int) (w : World) (N a : Nat) (R W : Int) (V : Nat → Value) (L : Nat → List Int) (h : ArcAt w N a R W V L) (hl : ∀ i, i < 4 → (L i).length ≤ 99999) :
    Calls Try.prog 100 #[.pointer (some ⟨a, 0, none⟩), .int .i64 n, .int .i64 3] w fun e w' => e = .returned (outV (sAgain W n 3 L).2) ∧ ∃ V', ArcAt w' N a R W V' (sAgain W n 3 L).1 ∧ ArcKept w w' N a V V' := by
  have c := aroom true w N a R W V L h (fun i hi => Nat.le_trans (hl i hi) (by decide))
  have hrl := sRoom_len W true L 99999 hl
  have hst : sAgain W n 3 L = (upd (upd (sRoom W true L).1 3 (((sRoom W true L).1 3).erase n)) 1 (n :: ((sRoom W true L).1 1).erase n), (sRoom W true L).2) := rfl
  rw [hst]
  clear hst
  generalize sRoom W true L = r at *
  obtain ⟨L1, o⟩ := r
  simp only at hrl c ⊢
  have h2 : (L1 3).length ≤ 1000000 := Nat.le_trans (hrl 3 (by decide)) (by decide)
  have h1 : (L1 1).length ≤ 1000000 := Nat.le_trans (hrl 1 (by decide)) (by decide)
  clear hl hrl h
  unfold outV at *
  go_enter Try.func100, Try.ntmps100
  go_wp2_with fail
  refine Calls.mono c ?_
  rintro e w1 ⟨rfl, V1, hA1, hK1⟩
  have cd := odropA (L1 3) n w1 N a _ _ _ _ (hA1.ord 3 (by decide)) h2
  have HA1 := Lib.hid (And.intro hA1 hK1)
  clear hA1 hK1 c
  go_wp2_with fail
  refine Calls.mono cd ?_
  rintro e w2 ⟨rfl, v2, ho2, hk2⟩
  obtain ⟨hA2, hK2⟩ := HA1.out.1.step 3 (by decide) ho2 hk2
  have cu := ouseA (L1 1) n w2 N a _ _ _ _ (hA2.ord 1 (by decide)) h1
  have HA2 := Lib.hid (And.intro hA2 (HA1.out.2.trans hK2))
  clear hA2 hK2 ho2 hk2 cd HA1
  go_wp2_with fail
  refine Calls.mono cu ?_
  rintro e w3 ⟨rfl, v3, ho3, hk3⟩
  obtain ⟨hA3, hK3⟩ := HA2.out.1.step 1 (by decide) ho3 hk3
  clear ho3 hk3 cu
  go_wp2_with fail
  go_returns
  exact ⟨rfl, _, hA3, HA2.out.2.trans hK3⟩
def sPop (f : Nat) (L : Nat → List Int) : (Nat → List Int) × Option Int :=
  match (L f).getLast? with
  | none => (L, none)
  | some x => (upd L f (L f).dropLast, some x)
theorem apop (f : Nat) (hf : f < 4) (w : World) (N a : Nat) (R W : Int) (V : Nat → Value) (L : Nat → List Int) (h : ArcAt w N a R W V L) (hl : ∀ i, i < 4 → (L i).length ≤ 100000) :
    Calls Try.prog 118 #[.pointer (some ⟨a, 2 + f, none⟩)] w fun e w' => e = .returned (outV (sPop f L).2) ∧ ∃ V', ArcAt w' N a R W V' (sPop f L).1 ∧ ArcKept w w' N a V V' := by
  rcases snoc_or (L f) with hL | ⟨l, x, hL⟩
  · rw [show sPop f L = (L, none) by simp [sPop, hL]]
    refine (opopA0 w N a _ _ _ _ (hL ▸ h.ord f hf)).mono ?_
    rintro e w' ⟨rfl, rfl⟩
    exact ⟨rfl, V, h, ArcKept.refl _ _ _ _⟩
  · rw [show sPop f L = (upd L f l, some x) by simp [sPop, hL]]
    refine (opopA l x w N a _ _ _ _ (hL ▸ h.ord f hf) (by have := hl f hf; rw [hL] at this; simp at this; omega)).mono ?_
    rintro e w' ⟨rfl, v', ho, hk⟩
    obtain ⟨hA, hK⟩ := h.step f hf ho hk
    exact ⟨rfl, _, hA, hK⟩
theorem sPop_len (f : Nat) (L : Nat → List Int) (m : Nat) (h : ∀ i, i < 4 → (L i).length ≤ m) : ∀ i, i < 4 → ((sPop f L).1 i).length ≤ m := by
  intro i hi
  unfold sPop
  split
  · exact h i hi
  · simp only
    by_cases h2 : i = f
    · subst h2
      rw [upd_at, List.length_dropLast]
      have := h i hi
      omega
    · rw [upd_ne _ _ h2]
      exact h i hi
theorem flipA {P : Program} {f : FuncId} {args : Array Value} {w : World} {v : Value} (h : Calls P f args w fun e w' => e = .returned v ∧ w = w') : Calls P f args w fun e w' => e = .returned v ∧ w' = w := h.mono fun _ _ h => ⟨h.1, h.2.symm⟩
def sComes (R W : Int) (L : Nat → List Int) : (Nat → List Int) × Option Int :=
  let k : Int := (L 0).length + (L 2).length
  let all : Int := k + (L 1).length + (L 3).length
  if R ≤ k then
    if ((L 0).length : Int) < R then sRoom W false (sPop 2 L).1 else sPop 0 L
  else if 2 * R ≤ all then sRoom W false (sPop 3 L).1
  else if R ≤ all then sRoom W false L
  else (L, none)
set_option maxHeartbeats 3200000 in
set_option maxRecDepth 20000 in
theorem acomes (w : World) (N a : Nat) (R W : Int) (V : Nat → Value) (L : Nat → List Int) (h : ArcAt w N a R W V L) (hR0 : 0 ≤ R) (hR : R ≤ 64) (hl : ∀ i, i < 4 → (L i).length ≤ 100000) :
    Calls Try.prog 101 #[.pointer (some ⟨a, 0, none⟩)] w fun e w' => e = .returned (outV (sComes R W L).2) ∧ ∃ V', ArcAt w' N a R W V' (sComes R W L).1 ∧ ArcKept w w' N a V V' := by
  have c0 := amany0 w N a R W V L h
  have c1 := amany1 w N a R W V L h
  have c2 := amany2 w N a R W V L h
  have c3 := amany3 w N a R W V L h
  have cq := fun q => flipA (amany0 (w.drewN q) N a R W V L (h.drewN q))
  obtain ⟨d0, d1⟩ := h.rooms
  have l0 := hl 0 (by decide)
  have l1 := hl 1 (by decide)
  have l2 := hl 2 (by decide)
  have l3 := hl 3 (by decide)
  have HL := Lib.hid hl
  have HH := Lib.hid h
  have hD : ∀ q, ArcKept w (w.drewN q) N a V V := fun q => ArcKept.of_below (below_drewN' (Below.refl _ _) q) h.le
  have HD := Lib.hid hD
  obtain ⟨S, hS⟩ : ∃ S, sComes R W L = S := ⟨_, rfl⟩
  have hS2 := hS
  unfold sComes at hS2
  rw [hS]
  clear h hl hD hS
  generalize hn0 : (L 0).length = n0 at *
  generalize hn1 : (L 1).length = n1 at *
  generalize hn2 : (L 2).length = n2 at *
  generalize hn3 : (L 3).length = n3 at *
  clear hn0 hn1 hn2 hn3
  simp only at hS2
  by_cases b1 : R ≤ (n0 : Int) + n2
  · rw [if_pos b1] at hS2
    have b1' : decide (R ≤ (n0 : Int) + n2) = true := decide_eq_true b1
    by_cases b2 : (n0 : Int) < R
    · rw [if_pos b2] at hS2
      have b2' : decide ((n0 : Int) < R) = true := decide_eq_true b2
      go_enter Try.func101, Try.ntmps101
      go_wp2_with fail
      refine Calls.mono c0 ?_
      rintro e w1 ⟨rfl, rfl⟩
      go_wp2_with fail
      refine Calls.mono c2 ?_
      rintro e w1 ⟨rfl, rfl⟩
      go_wp2_with fail
      refine Calls.mono c1 ?_
      rintro e w1 ⟨rfl, rfl⟩
      go_wp2_with fail
      refine Calls.mono c3 ?_
      rintro e w1 ⟨rfl, rfl⟩
      go_upto_region 3 with fail
      go_quiet ((go_at_call 99; exact Calls.quiet_of_same (cq _)))
      have cp := apop 2 (by decide) (w.drewN nq) N a R W V L (HH.out.drewN nq) HL.out
      clear cq c0 c1 c2 c3
      go_wp2_with fail
      refine Calls.mono cp ?_
      rintro e w2 ⟨rfl, V2, h2, k2⟩
      have cr := aroom false w2 N a R W V2 _ h2 (sPop_len 2 L _ HL.out)
      rw [hS2] at cr
      have HK := Lib.hid ((HD.out nq).trans k2)
      clear h2 k2 cp
      unfold outV at *
      go_wp2_with fail
      refine Calls.mono cr ?_
      rintro e w3 ⟨rfl, V3, h3, k3⟩
      go_wp2_with fail
      go_returns
      exact ⟨rfl, _, h3, HK.out.trans k3⟩
    · rw [if_neg b2] at hS2
      have b2' : decide ((n0 : Int) < R) = false := decide_eq_false b2
      go_enter Try.func101, Try.ntmps101
      go_wp2_with fail
      refine Calls.mono c0 ?_
      rintro e w1 ⟨rfl, rfl⟩
      go_wp2_with fail
      refine Calls.mono c2 ?_
      rintro e w1 ⟨rfl, rfl⟩
      go_wp2_with fail
      refine Calls.mono c1 ?_
      rintro e w1 ⟨rfl, rfl⟩
      go_wp2_with fail
      refine Calls.mono c3 ?_
      rintro e w1 ⟨rfl, rfl⟩
      go_upto_region 3 with fail
      go_quiet ((go_at_call 99; exact Calls.quiet_of_same (cq _)))
      have cp := apop 0 (by decide) (w.drewN nq) N a R W V L (HH.out.drewN nq) HL.out
      rw [hS2] at cp
      have d0' : (w.drewN nq).cell? ⟨a, 0, none⟩ = some (.int .i64 R) := d0
      have HK := Lib.hid (HD.out nq)
      clear cq c0 c1 c2 c3
      unfold outV at *
      go_wp2_with fail
      refine Calls.mono cp ?_
      rintro e w2 ⟨rfl, V2, h2, k2⟩
      go_wp2_with fail
      go_returns
      exact ⟨rfl, _, h2, HK.out.trans k2⟩
  · rw [if_neg b1] at hS2
    have b1' : decide (R ≤ (n0 : Int) + n2) = false := decide_eq_false b1
    go_enter Try.func101, Try.ntmps101
    go_wp2_with fail
    refine Calls.mono c0 ?_
    rintro e w1 ⟨rfl, rfl⟩
    go_wp2_with fail
    refine Calls.mono c2 ?_
    rintro e w1 ⟨rfl, rfl⟩
    go_wp2_with fail
    refine Calls.mono c1 ?_
    rintro e w1 ⟨rfl, rfl⟩
    go_wp2_with fail
    refine Calls.mono c3 ?_
    rintro e w1 ⟨rfl, rfl⟩
    go_upto_region 3 with fail
    go_quiet (fail)
    have d0' : (w.drewN nq).cell? ⟨a, 0, none⟩ = some (.int .i64 R) := d0
    clear cq c0 c1 c2 c3
    by_cases b3 : 2 * R ≤ (n0 : Int) + n2 + n1 + n3
    · rw [if_pos b3] at hS2
      have cp := apop 3 (by decide) (w.drewN nq) N a R W V L (HH.out.drewN nq) HL.out
      go_wp2_with fail
      refine Calls.mono cp ?_
      rintro e w2 ⟨rfl, V2, h2, k2⟩
      have cr := aroom false w2 N a R W V2 _ h2 (sPop_len 3 L _ HL.out)
      rw [hS2] at cr
      have HK := Lib.hid ((HD.out nq).trans k2)
      clear h2 k2 cp
      unfold outV at *
      go_wp2_with fail
      refine Calls.mono cr ?_
      rintro e w3 ⟨rfl, V3, h3, k3⟩
      go_wp2_with fail
      go_returns
      exact ⟨rfl, _, h3, HK.out.trans k3⟩
    · rw [if_neg b3] at hS2
      by_cases b4 : R ≤ (n0 : Int) + n2 + n1 + n3
      · rw [if_pos b4] at hS2
        have cr := aroom false (w.drewN nq) N a R W V _ (HH.out.drewN nq) HL.out
        rw [hS2] at cr
        have HK := Lib.hid (HD.out nq)
        unfold outV at *
        go_wp2_with fail
        refine Calls.mono cr ?_
        rintro e w3 ⟨rfl, V3, h3, k3⟩
        go_wp2_with fail
        go_returns
        exact ⟨rfl, _, h3, HK.out.trans k3⟩
      · rw [if_neg b4] at hS2
        subst hS2
        go_wp2_with fail
        go_returns
        exact ⟨rfl, V, HH.out.drewN nq, HD.out nq⟩
end Go.Proofs.Ytfgmeeponipjeaa
/-
  An arc: its want changes; Drop; Use of a number of which nothing is known.
-/

namespace Go.Proofs.Ytfgmeeponipjeaa
open Go.RowKit
set_option linter.unusedVariables false
set_option linter.unusedSimpArgs false

theorem ArcAt.want {w : World} {N a : Nat} {R W : Int} {V : Nat → Value} {L : Nat → List Int} (h : ArcAt w N a R W V L) (W' : Int) : ArcAt (w.setCell ⟨a, 1, none⟩ (.int .i64 W')) N a R W' V L ∧ ArcKept w (w.setCell ⟨a, 1, none⟩ (.int .i64 W')) N a V V := by
  have hne : ∀ i, i < 4 → ∀ g, (V i).ownBlock = some g → g ≠ a := fun i hi g hg e => (h.row i hi).other h.obj (by decide) (e ▸ hg)
  have ho : (w.setCell ⟨a, 1, none⟩ (.int .i64 W')).heap[a]? = some (.cells (arcC R W' V) 142) := (heap_setCell_same _ _ _ _ _ _ h.obj).trans rfl
  exact ⟨⟨h.low, ho, fun i hi => (h.row i hi).kept fun g hg => heap_setCell_other _ _ _ _ (hne i hi g hg), h.dis⟩,
    ⟨below_setCells h.low [.int .i64 W'] 1 w (Below.refl _ _), by simp, fun j hj hja _ => heap_setCell_other _ _ _ _ hja, fun i hi k e => .inl ⟨i, hi, e⟩⟩⟩
set_option maxHeartbeats 1600000 in
/-- Drop: of the first list that has it, else of the second -/
theorem adropA (n : Int) (w : World) (N a : Nat) (R W : Int) (V : Nat → Value) (L : Nat → List Int) (h : ArcAt w N a R W V L) (hl : ∀ i, i < 4 → (L i).length ≤ 100000) :
    Calls Try.prog 80 #[.pointer (some ⟨a, 0, none⟩), .int .i64 n] w fun e w' => e = .returned (.bool ((L 0).contains n || (L 1).contains n)) ∧ ∃ V', ArcAt w' N a R W V' (if (L 0).contains n = true then upd L 0 ((L 0).erase n) else upd L 1 ((L 1).erase n)) ∧ ArcKept w w' N a V V' := by
  have c0 := odropA (L 0) n w N a _ _ _ _ (h.ord 0 (by decide)) (Nat.le_trans (hl 0 (by decide)) (by decide))
  have l1 : (L 1).length ≤ 1000000 := Nat.le_trans (hl 1 (by decide)) (by decide)
  have HH := Lib.hid h
  clear h hl
  cases hb : (L 0).contains n
  · have he : (L 0).erase n = L 0 := List.erase_of_not_mem (by simpa using hb)
    rw [hb, he] at c0
    rw [if_neg (by decide)]
    have hu : upd L 0 (L 0) = L := by funext i; unfold upd; split <;> simp_all
    clear he hb
    obtain ⟨q, hq⟩ : ∃ q, (L 1).contains n = q := ⟨_, rfl⟩
    rw [hq]
    have HQ := Lib.hid hq
    clear hq
    go_enter Try.func80, Try.ntmps80
    go_wp2_with fail
    refine Calls.mono c0 ?_
    rintro e w1 ⟨rfl, v1, ho1, hk1⟩
    obtain ⟨hA1, hK1⟩ := HH.out.step 0 (by decide) ho1 hk1
    have hA1 : ArcAt w1 N a R W (upd V 0 v1) L := hu ▸ hA1
    have c1 := odropA (L 1) n w1 N a _ _ _ _ (hA1.ord 1 (by decide)) l1
    rw [HQ.out] at c1
    have HA := Lib.hid (And.intro hA1 hK1)
    clear hA1 hK1 ho1 hk1 c0
    go_wp2_with fail
    refine Calls.mono c1 ?_
    rintro e w2 ⟨rfl, v2, ho2, hk2⟩
    obtain ⟨hA2, hK2⟩ := HA.out.1.step 1 (by decide) ho2 hk2
    clear ho2 hk2 c1
    go_wp2_with fail
    go_returns
    exact ⟨by simp, _, hA2, HA.out.2.trans hK2⟩
  · rw [hb] at c0
    rw [if_pos rfl]
    clear hb
    go_enter Try.func80, Try.ntmps80
    go_wp2_with fail
    refine Calls.mono c0 ?_
    rintro e w1 ⟨rfl, v1, ho1, hk1⟩
    obtain ⟨hA1, hK1⟩ := HH.out.step 0 (by decide) ho1 hk1
    clear ho1 hk1 c0
    go_wp2_with fail
    go_returns
    exact ⟨rfl, _, hA1, hK1⟩
set_option maxHeartbeats 1600000 in
/-- Use of a number of which nothing is known -/
theorem ause_fresh (n : Int) (w : World) (N a : Nat) (R W : Int) (V : Nat → Value) (L : Nat → List Int) (h : ArcAt w N a R W V L) (hR0 : 0 < R) (hR : R ≤ 64) (hl : ∀ i, i < 4 → (L i).length ≤ 99999) (hn : ∀ i, i < 4 → (L i).contains n = false) :
    Calls Try.prog 83 #[.pointer (some ⟨a, 0, none⟩), .int .i64 n] w fun e w' => e = .returned (outV (sComes R W L).2) ∧ ∃ V', ArcAt w' N a R W V' (upd (sComes R W L).1 0 (n :: ((sComes R W L).1 0).erase n)) ∧ ArcKept w w' N a V V' := by
  obtain ⟨d0, d1⟩ := h.rooms
  have ca := ahas n w N a R W V L h
  rw [hn 0 (by decide), hn 1 (by decide)] at ca
  have c2 := ohasA (L 2) n w N a _ _ _ _ (h.ord 2 (by decide))
  have c3 := ohasA (L 3) n w N a _ _ _ _ (h.ord 3 (by decide))
  rw [hn 2 (by decide)] at c2
  rw [hn 3 (by decide)] at c3
  have hl2 : ∀ i, i < 4 → (L i).length ≤ 100000 := fun i hi => Nat.le_trans (hl i hi) (by decide)
  have cc := acomes w N a R W V L h (by omega) hR hl2
  have hcl : ((sComes R W L).1 0).length ≤ 1000000 := by
    have hr : ∀ L' : Nat → List Int, (∀ i, i < 4 → (L' i).length ≤ 99999) → ((sRoom W false L').1 0).length ≤ 1000000 := fun L' h' => Nat.le_trans (sRoom_len W false L' 99999 h' 0 (by decide)) (by decide)
    unfold sComes
    simp only
    split
    · split
      · exact hr _ (sPop_len 2 L _ hl)
      · exact Nat.le_trans (sPop_len 0 L _ hl 0 (by decide)) (by decide)
    · split
      · exact hr _ (sPop_len 3 L _ hl)
      · split
        · exact hr _ hl
        · exact Nat.le_trans (hl 0 (by decide)) (by decide)
  generalize sComes R W L = r at *
  obtain ⟨L1, o⟩ := r
  simp only at cc hcl ⊢
  have hR2 : ¬ R = 0 := by omega
  have HH := Lib.hid h
  clear h hn hl hl2
  unfold outV at *
  go_enter Try.func83, Try.ntmps83
  go_wp2_with fail
  refine Calls.mono ca ?_
  rintro e w1 ⟨rfl, rfl⟩
  go_wp2_with fail
  refine Calls.mono c2 ?_
  rintro e w1 ⟨rfl, rfl⟩
  go_wp2_with fail
  refine Calls.mono c3 ?_
  rintro e w1 ⟨rfl, rfl⟩
  go_wp2_with fail
  refine Calls.mono cc ?_
  rintro e w1 ⟨rfl, V1, hA1, hK1⟩
  have cu := ouseA (L1 0) n w1 N a _ _ _ _ (hA1.ord 0 (by decide)) hcl
  have HQ := Lib.hid (And.intro hA1 hK1)
  clear hA1 hK1 cc c3 c2 ca d0 d1
  go_wp2_with fail
  refine Calls.mono cu ?_
  rintro e w2 ⟨rfl, v0, ho, hk⟩
  obtain ⟨hA, hK⟩ := HQ.out.1.step 0 (by decide) ho hk
  clear ho hk cu
  go_wp2_with fail
  go_returns
  exact ⟨rfl, _, hA, HQ.out.2.trans hK⟩
end Go.Proofs.Ytfgmeeponipjeaa
/-
  An arc: Use of a number that was kept once (OPEN: region 8).
-/

namespace Go.Proofs.Ytfgmeeponipjeaa
open Go.RowKit
set_option linter.unusedVariables false
set_option linter.unusedSimpArgs false

set_option maxHeartbeats 16000000 in
set_option maxRecDepth 100000 in
theorem ause_was2 (n : Int) (w : World) (N a : Nat) (R W : Int) (V : Nat → Value) (L : Nat → List Int) (h : ArcAt w N a R W V L) (hR0 : 0 < R) (hR : R ≤ 64) (hW : 0 ≤ W) (hW2 : W ≤ 64) (hl : ∀ i, i < 4 → (L i).length ≤ 99999) (h01 : ((L 0).contains n || (L 1).contains n) = false) (hn : (L 2).contains n = true) :
    Calls Try.prog 83 #[.pointer (some ⟨a, 0, none⟩), .int .i64 n] w fun e w' => e = .returned (outV (sAgain (min R (W + max 1 (((L 3).length / (L 2).length : Nat) : Int))) n 2 L).2) ∧ ∃ V', ArcAt w' N a R (min R (W + max 1 (((L 3).length / (L 2).length : Nat) : Int))) V' (sAgain (min R (W + max 1 (((L 3).length / (L 2).length : Nat) : Int))) n 2 L).1 ∧ ArcKept w w' N a V V' := by
  obtain ⟨d0, d1⟩ := h.rooms
  have ca := ahas n w N a R W V L h
  rw [h01] at ca
  have c2 := ohasA (L 2) n w N a _ _ _ _ (h.ord 2 (by decide))
  rw [hn] at c2
  have m2 := fun q => amany2 (w.drewN q) N a R W V L (h.drewN q)
  have m3 := fun q => amany3 (w.drewN q) N a R W V L (h.drewN q)
  have l2 := hl 2 (by decide)
  have l3 := hl 3 (by decide)
  have hpos : 0 < (L 2).length := by
    rcases hL : L 2 with _ | ⟨x, m⟩
    · rw [hL] at hn; cases hn
    · simp
  have hf := obj_frozenA h.obj 1
  have HH := Lib.hid h
  have HL := Lib.hid hl
  clear h hl hn h01
  generalize (L 2).length = n2 at *
  generalize (L 3).length = n3 at *
  have hR2 : ¬ R = 0 := by omega
  have hp2 : ¬ n2 = 0 := by omega
  obtain ⟨Q, hQ⟩ : ∃ Q : Int, ((n3 / n2 : Nat) : Int) = Q := ⟨_, rfl⟩
  have hQ0 : 0 ≤ Q := by rw [← hQ]; exact Int.natCast_nonneg _
  have hQ1 : Q ≤ 99999 := by rw [← hQ]; have := Nat.div_le_self n3 n2; omega
  have e1 : wrap64 ((n3 : Int) / (n2 : Int)) = Q := by
    rw [show (n3 : Int) / (n2 : Int) = Q by rw [← hQ]; simp]
    unfold wrap64
    omega
  have e2 : IntKind.i64.wrap (W + max 1 Q) = W + max 1 Q := by
    have : max 1 Q ≤ 99999 := by omega
    have : 0 ≤ max 1 Q := by omega
    rw [IntKind.wrap_i64]
    omega
  have e3 : IntKind.i64.wrap ((n3 : Int) / (n2 : Int)) = Q := by
    rw [show ((n3 : Int) / (n2 : Int)) = Q by rw [← hQ]; simp]
    rw [IntKind.wrap_i64]
    omega
  rw [hQ]
  have HE := Lib.hid (And.intro e1 (And.intro e2 e3))
  clear e1 e2 e3 hQ
  go_enter Try.func83, Try.ntmps83
  go_wp2_with fail
  refine Calls.mono ca ?_
  rintro e w1 ⟨rfl, rfl⟩
  go_wp2_with fail
  refine Calls.mono c2 ?_
  rintro e w1 ⟨rfl, rfl⟩
  go_upto_region 8 with fail
  go_cut [57] (fun p wx => p = .pointer (some ⟨a, 0, none⟩) ∧ wx = (w.drewN 1).setCell ⟨a, 1, none⟩ (.int .i64 (min R (W + max 1 Q))))
  case first =>
    go_region_with (first | (go_at_call_of 99 (Value.int .i64 2); refine Calls.mono (m2 _) ?_; rintro e wz ⟨rfl, rfl⟩) | (go_at_call_of 99 (Value.int .i64 3); refine Calls.mono (m3 _) ?_; rintro e wz ⟨rfl, rfl⟩))
    all_goals
      go_wp2_with fail
      go_meet
      exact ⟨rfl, by first | rw [HE.out.1, HE.out.2.1] | rw [HE.out.2.2, HE.out.2.1]⟩
  case rest =>
    obtain ⟨rfl, rfl⟩ := hcut
    have hA := (HH.out.drewN 1).want (min R (W + max 1 Q))
    have cg := aagain2 n _ N a R _ V L hA.1 HL.out
    have HK := Lib.hid ((ArcKept.of_below (a := a) (V := V) (below_drewN' (Below.refl _ _) 1) HH.out.le).trans hA.2)
    clear hA ca c2 m2 m3 d0 d1 hf
    generalize (w.drewN 1).setCell ⟨a, 1, none⟩ (.int .i64 (min R (W + max 1 Q))) = W1 at *
    unfold outV at *
    go_wp2_with fail
    refine Calls.mono cg ?_
    rintro e w2 ⟨rfl, V', h2, k2⟩
    go_wp2_with fail
    go_returns
    exact ⟨rfl, V', h2, HK.out.trans k2⟩
end Go.Proofs.Ytfgmeeponipjeaa
