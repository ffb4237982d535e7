/-
  PendPlays' walk.
-/
import Derived.Test.YtlabjemjhokcaaaPendC
import Derived.Deep.CutBlock
namespace Go.Proofs.Ytlabjemjhokcaaa
open Go.RowKit
set_option linter.unusedVariables false

def mB (l : List Int) (k : Nat) : Array Value := #[.bool (decide (0 ∈ l.take k)), .bool (decide (1 ∈ l.take k)), .bool (decide (2 ∈ l.take k)), .bool (decide (3 ∈ l.take k)), .bool (decide (4 ∈ l.take k))]
theorem mB_set (l : List Int) (k : Nat) (hk : k < l.length) (n : Nat) (hn : n < 5) (he : l.getD k 0 = n) : (mB l k).setIfInBounds n (.bool true) = mB l (k + 1) := by
  unfold mB
  rw [mem_snoc l k hk, mem_snoc l k hk, mem_snoc l k hk, mem_snoc l k hk, mem_snoc l k hk, he]
  match n, hn with
  | 0, _ => simp
  | 1, _ => simp
  | 2, _ => simp
  | 3, _ => simp
  | 4, _ => simp
  | n + 5, h => omega
theorem mB_skip (l : List Int) (k : Nat) (hk : k < l.length) (he : ¬ (0 ≤ l.getD k 0 ∧ l.getD k 0 < 5)) : mB l k = mB l (k + 1) := by
  unfold mB
  rw [mem_snoc l k hk, mem_snoc l k hk, mem_snoc l k hk, mem_snoc l k hk, mem_snoc l k hk]
  have h : ¬ (0 = l.getD k 0) ∧ ¬ (1 = l.getD k 0) ∧ ¬ (2 = l.getD k 0) ∧ ¬ (3 = l.getD k 0) ∧ ¬ (4 = l.getD k 0) := by omega
  simp only [h, decide_false, Bool.or_false]
def FirstRel (B : Nat) (l : List Int) (k : Nat) (w wr : World) : Prop := wr.heap[B]? = some (.cells (mB l l.length) 71) ∧ wr.heap[B + 1]? = some (.cells (mB l k) 69) ∧ Below w.heap.size w wr
def TwoRel (B : Nat) (w wr : World) : Prop := ∃ a b c d e : Bool, wr.heap[B]? = some (.cells #[.bool a, .bool b, .bool c, .bool d, .bool e] 71) ∧ wr.heap[B + 1]? = some (.cells #[.bool a, .bool b, .bool c, .bool d, .bool e] 69) ∧ Below w.heap.size w wr
theorem leftK_more (f : Nat → Bool) (x j : Nat) : ∃ t, leftK f (x + j) = leftK f x ++ t := by
  induction j with
  | zero => exact ⟨[], by simp⟩
  | succ j ih =>
    obtain ⟨t, ht⟩ := ih
    refine ⟨t ++ (if f (x + j) then [((x + j : Nat) : Int)] else []), ?_⟩
    rw [← Nat.add_assoc, leftK, ht, List.append_assoc]
theorem leftK_at (f : Nat → Bool) (x : Nat) (hx : x < 5) (hf : f x = true) : (leftK f x).length < (leftK f 5).length ∧ (leftK f 5).getD (leftK f x).length 0 = x := by
  obtain ⟨t, ht⟩ := leftK_more f (x + 1) (5 - (x + 1))
  rw [show x + 1 + (5 - (x + 1)) = 5 by omega] at ht
  have e : leftK f (x + 1) = leftK f x ++ [(x : Int)] := by simp [leftK, hf]
  rw [e] at ht
  rw [ht]
  constructor
  · simp
  · simp [List.getD]
def LenIs (f : Nat → Bool) (j y : Nat) : Prop := (leftK f j).length = y
theorem len_true {f : Nat → Bool} {j y : Nat} (h : LenIs f j y) (hf : f j = true) : LenIs f (j + 1) (y + 1) := by
  unfold LenIs at *
  simp [leftK, hf, h]
theorem len_false {f : Nat → Bool} {j y : Nat} (h : LenIs f j y) (hf : f j = false) : LenIs f (j + 1) y := by
  unfold LenIs at *
  simp [leftK, hf, h]
theorem leftK_zero (a b c d e : Bool) : (!(a || b || c || d || e)) = decide ((leftK (pB a b c d e) 5).length = 0) := by
  revert a b c d e; decide
def mAt (a b c d e : Bool) (n : Int) : Bool := (a && decide (n = 0)) || (b && decide (n = 1)) || (c && decide (n = 2)) || (d && decide (n = 3)) || (e && decide (n = 4))
theorem mAt_keep (a b c d e : Bool) (n : Int) (h : mAt a b c d e n = false) : (a && !decide (n = 0)) = a ∧ (b && !decide (n = 1)) = b ∧ (c && !decide (n = 2)) = c ∧ (d && !decide (n = 3)) = d ∧ (e && !decide (n = 4)) = e := by
  simp only [mAt, Bool.or_eq_false_iff] at h
  obtain ⟨⟨⟨⟨g0, g1⟩, g2⟩, g3⟩, g4⟩ := h
  refine ⟨?_, ?_, ?_, ?_, ?_⟩
  · cases a <;> simp_all
  · cases b <;> simp_all
  · cases c <;> simp_all
  · cases d <;> simp_all
  · cases e <;> simp_all
theorem got_any (a b c d e : Bool) (n : Int) (w : World) : Calls Try.prog 46 #[.agg #[.bool a, .bool b, .bool c, .bool d, .bool e], .int .i64 n] w fun v w' =>
    v = .returned (.tuple #[.agg #[.bool (a && !decide (n = 0)), .bool (b && !decide (n = 1)), .bool (c && !decide (n = 2)), .bool (d && !decide (n = 3)), .bool (e && !decide (n = 4))], .bool (mAt a b c d e n)]) ∧ Below w.heap.size w w' := by
  have hn : n = 0 ∨ n = 1 ∨ n = 2 ∨ n = 3 ∨ n = 4 ∨ ¬ (0 ≤ n ∧ n < 5) := by omega
  rcases hn with rfl | rfl | rfl | rfl | rfl | hn
  · simpa [mAt] using got0 a b c d e w
  · simpa [mAt] using got1 a b c d e w
  · simpa [mAt] using got2 a b c d e w
  · simpa [mAt] using got3 a b c d e w
  · simpa [mAt] using got4 a b c d e w
  · have h : ¬ (n = 0) ∧ ¬ (n = 1) ∧ ¬ (n = 2) ∧ ¬ (n = 3) ∧ ¬ (n = 4) := by omega
    simpa [mAt, h] using got_no a b c d e n hn w
set_option maxHeartbeats 12800000 in
set_option maxRecDepth 20000 in
theorem plays_law (a : Option Addr) (len cap : Nat) (zs : List Int) (a2 : Option Addr) (len2 cap2 : Nat) (zs2 : List Int) (w : World) (hr : RowOf .i64 w a len cap zs) (hr2 : RowOf .i64 w a2 len2 cap2 zs2) :
    Calls Try.prog 9 #[.slice a len cap, .slice a2 len2 cap2] w fun v w' => v = .returned (.bool true) ∧ Below w.heap.size w w' := by
  obtain ⟨hsr, hlz⟩ := SR.row hr
  obtain ⟨hsr2, hlz2⟩ := SR.row hr2
  obtain ⟨_, _, he, hlc, hcm⟩ := hsr.form
  cases he
  obtain ⟨_, _, he, hlc2, hcm2⟩ := hsr2.form
  cases he
  unfold maxLen at hcm hcm2
  have hmn : (if (20 : Int) < (len : Int) then (20 : Int) else (len : Int)) = ((min len 20 : Nat) : Int) := by split <;> omega
  obtain ⟨L, hL⟩ : ∃ L, L = (zs.take len).take (min len 20) := ⟨_, rfl⟩
  have hf := hsr.front (min len 20) (by omega)
  rw [nCells_take, ← hL] at hf
  have hLl : L.length = min len 20 := by rw [hL, List.length_take, hlz]; omega
  rw [← hLl] at hf hmn
  have hLb : L.length ≤ len ∧ L.length ≤ 20 ∧ (len ≤ L.length ∨ 20 ≤ L.length) := by omega
  obtain ⟨L2, hL2⟩ : ∃ L2, L2 = zs2.take len2 := ⟨_, rfl⟩
  rw [← hL2] at hsr2 hlz2
  have HF := Lib.hid hf
  have HS2 := Lib.hid hsr2
  have HZ2 := Lib.hid hlz2
  have cof := of_any _ L w hf
  clear hf hL hLl hsr hlz hsr2 hlz2 hL2 hr hr2
  obtain ⟨hLb1, hLb2, hLb3⟩ := hLb
  go_enter Try.func9, Try.ntmps9
  go_wp2_with fail
  refine Calls.mono cof ?_
  rintro v w1 ⟨rfl, hb1⟩
  go_upto_block 0 with fail
  have s1 := hb1.size
  have i1 : FirstRel w1.heap.size L 0 w ((w1.alloc (.cells (mB L L.length) 71)).alloc (.cells (mB L 0) 69)) :=
    ⟨(two_blocks _ _ _).1, (two_blocks _ _ _).2, (hb1.alloc s1 _).alloc (by simp; omega) _⟩
  have I1 := Lib.hid i1
  simp only [mB, List.take_length, List.take_zero, List.not_mem_nil, decide_false] at I1
  clear i1 hb1 cof
  go_cut [] (fun wx => TwoRel w1.heap.size w wx)
  case first =>
    go_wp2_with fail
    go_loopw [7] (fun i wr => ∃ k : Nat, k ≤ L.length ∧ i = .int .i64 k ∧ FirstRel w1.heap.size L k w wr) (fun i _ => 30 - (intOf i).toNat)
    case atStart =>
      refine ⟨0, Nat.zero_le _, rfl, ?_⟩
      exact I1.out
    case round =>
      obtain ⟨k, hk, rfl, hA, hB, hbel⟩ := hrel
      have HA := Lib.hid hA
      have HB := Lib.hid hB
      have HE := Lib.hid hbel
      have hsz := hbel.size
      clear I1
      by_cases hlt : k < L.length
      · obtain ⟨b, off, rfl, hb, hcell⟩ := HF.out.int (by omega)
        have hc : wr.cell? ⟨b, off + k, none⟩ = some (.int .i64 (L.getD k 0)) := (hbel.cell (p := ⟨b, off + k, none⟩) hb).trans (hcell k hlt)
        have HN := Lib.hid (⟨rfl, hlt⟩ : L.getD k 0 = L.getD k 0 ∧ k < L.length)
        obtain ⟨n, hn⟩ : ∃ n, n = L.getD k 0 := ⟨_, rfl⟩
        rw [← hn] at hc
        have HNN := Lib.hid hn
        clear hcell hn
        have hn : n = 0 ∨ n = 1 ∨ n = 2 ∨ n = 3 ∨ n = 4 ∨ ¬ (0 ≤ n ∧ n < 5) := by omega
        have hll : k < len := by omega
        have hl20 : k < 20 := by omega
        have hBb : b < wr.heap.size := by omega
        clear hbel hLb3
        rcases hn with rfl | rfl | rfl | rfl | rfl | hn
        · have q : wr.cell? ⟨w1.heap.size + 1, 0, none⟩ = some (.bool (decide (0 ∈ L.take k))) := by simp [World.cell?, hB, mB]
          have f : wr.frozen? ⟨w1.heap.size + 1, 0, none⟩ = false := by simp [World.frozen?, hB]
          generalize decide (0 ∈ L.take k) = was at q
          clear hB hA
          go_wp2_with fail
          go_roundw
          case rel =>
            refine ⟨k + 1, by omega, by go_num, (Below.heap_setCell _ _ _ _ (by simp)).trans HA.out, ?_, HE.out.setCell (by simp; omega) _⟩
            rw [heap_set_self HB.out, mB_set L k hlt 0 (by omega) HNN.out.symm]
          case measure => simp [intOf]; omega
        · have q : wr.cell? ⟨w1.heap.size + 1, 1, none⟩ = some (.bool (decide (1 ∈ L.take k))) := by simp [World.cell?, hB, mB]
          have f : wr.frozen? ⟨w1.heap.size + 1, 1, none⟩ = false := by simp [World.frozen?, hB]
          generalize decide (1 ∈ L.take k) = was at q
          clear hB hA
          go_wp2_with fail
          go_roundw
          case rel =>
            refine ⟨k + 1, by omega, by go_num, (Below.heap_setCell _ _ _ _ (by simp)).trans HA.out, ?_, HE.out.setCell (by simp; omega) _⟩
            rw [heap_set_self HB.out, mB_set L k hlt 1 (by omega) HNN.out.symm]
          case measure => simp [intOf]; omega
        · have q : wr.cell? ⟨w1.heap.size + 1, 2, none⟩ = some (.bool (decide (2 ∈ L.take k))) := by simp [World.cell?, hB, mB]
          have f : wr.frozen? ⟨w1.heap.size + 1, 2, none⟩ = false := by simp [World.frozen?, hB]
          generalize decide (2 ∈ L.take k) = was at q
          clear hB hA
          go_wp2_with fail
          go_roundw
          case rel =>
            refine ⟨k + 1, by omega, by go_num, (Below.heap_setCell _ _ _ _ (by simp)).trans HA.out, ?_, HE.out.setCell (by simp; omega) _⟩
            rw [heap_set_self HB.out, mB_set L k hlt 2 (by omega) HNN.out.symm]
          case measure => simp [intOf]; omega
        · have q : wr.cell? ⟨w1.heap.size + 1, 3, none⟩ = some (.bool (decide (3 ∈ L.take k))) := by simp [World.cell?, hB, mB]
          have f : wr.frozen? ⟨w1.heap.size + 1, 3, none⟩ = false := by simp [World.frozen?, hB]
          generalize decide (3 ∈ L.take k) = was at q
          clear hB hA
          go_wp2_with fail
          go_roundw
          case rel =>
            refine ⟨k + 1, by omega, by go_num, (Below.heap_setCell _ _ _ _ (by simp)).trans HA.out, ?_, HE.out.setCell (by simp; omega) _⟩
            rw [heap_set_self HB.out, mB_set L k hlt 3 (by omega) HNN.out.symm]
          case measure => simp [intOf]; omega
        · have q : wr.cell? ⟨w1.heap.size + 1, 4, none⟩ = some (.bool (decide (4 ∈ L.take k))) := by simp [World.cell?, hB, mB]
          have f : wr.frozen? ⟨w1.heap.size + 1, 4, none⟩ = false := by simp [World.frozen?, hB]
          generalize decide (4 ∈ L.take k) = was at q
          clear hB hA
          go_wp2_with fail
          go_roundw
          case rel =>
            refine ⟨k + 1, by omega, by go_num, (Below.heap_setCell _ _ _ _ (by simp)).trans HA.out, ?_, HE.out.setCell (by simp; omega) _⟩
            rw [heap_set_self HB.out, mB_set L k hlt 4 (by omega) HNN.out.symm]
          case measure => simp [intOf]; omega
        · have hsplit : n < 0 ∨ (0 ≤ n ∧ 5 ≤ n) := by omega
          have h1 : FirstRel w1.heap.size L (k + 1) w wr := ⟨hA, by rw [← mB_skip L k hlt (by rw [← HNN.out]; exact hn)]; exact hB, HE.out⟩
          have H1 := Lib.hid h1
          clear hB hA hn h1
          rcases hsplit with hs | ⟨hs, hs2⟩
          all_goals
            go_wp2_with fail
            go_roundw
            case rel => exact ⟨k + 1, by omega, by go_num, H1.out⟩
            case measure => simp [intOf]; omega
      · obtain rfl : k = L.length := by omega
        have htw : TwoRel w1.heap.size w wr := by
          refine ⟨_, _, _, _, _, hA, ?_, hbel⟩
          simpa [mB] using hB
        have HT := Lib.hid htw
        clear hA hB HA HB hbel HE htw hlt
        have hout : ¬ (L.length < len) ∨ (L.length < len ∧ ¬ ((L.length : Int) < 20)) := by omega
        rcases hout with ho | ⟨ho, ho2⟩
        all_goals
          go_wp2_with fail
          go_meet
          exact HT.out
  case rest =>
    clear I1
    have HT := Lib.hid hcut
    clear hcut
    go_wp2_with fail
    go_loopw [8] (fun i wx => ∃ k : Nat, k ≤ len2 ∧ k ≤ 20 ∧ i = .int .i64 k ∧ TwoRel w1.heap.size w wx) (fun i _ => 30 - (intOf i).toNat)
    case atStart => exact ⟨0, Nat.zero_le _, Nat.zero_le _, rfl, HT.out⟩
    case round =>
      obtain ⟨k, hk2, hk20, rfl, htw⟩ := hrel
      clear HT
      by_cases hin : k < len2 ∧ k < 20
      · obtain ⟨hi1, hi2⟩ := hin
        obtain ⟨b2, off2, rfl, hb2, hcell2⟩ := HS2.out.int (by omega)
        obtain ⟨a', b', c', d', e', hA, hB, hbel⟩ := htw
        have hc2 := (hbel.cell (p := ⟨b2, off2 + k, none⟩) hb2).trans (hcell2 k hi1)
        generalize L2.getD k 0 = n at hc2
        have HA := Lib.hid hA
        have HB := Lib.hid hB
        have HE := Lib.hid hbel
        have hsz := hbel.size
        clear hcell2 hA hB hbel
        go_upto_if 65 with fail
        go_cut [9] (fun s wx => (∃ n' : Int, s = .int .i64 n') ∧ wx = wr)
        case first =>
          by_cases h3 : 0 < bits .and .i64 (k : Int) 3
          all_goals
            go_wp2_with fail
            go_meet
            exact ⟨⟨_, rfl⟩, rfl⟩
        case rest =>
          obtain ⟨⟨n', rfl⟩, rfl⟩ := hcut
          clear hc2 HS2
          have hA := HA.out
          have x0 : wc.cell? ⟨w1.heap.size, 0, none⟩ = some (.bool a') := by simp [World.cell?, hA]
          have x1 : wc.cell? ⟨w1.heap.size, 1, none⟩ = some (.bool b') := by simp [World.cell?, hA]
          have x2 : wc.cell? ⟨w1.heap.size, 2, none⟩ = some (.bool c') := by simp [World.cell?, hA]
          have x3 : wc.cell? ⟨w1.heap.size, 3, none⟩ = some (.bool d') := by simp [World.cell?, hA]
          have x4 : wc.cell? ⟨w1.heap.size, 4, none⟩ = some (.bool e') := by simp [World.cell?, hA]
          have lB : w1.heap.size + 1 < wc.heap.size := lt_heap HB.out
          clear hA
          have cg := fun w => got_any a' b' c' d' e' n' w
          obtain ⟨A, hA'⟩ : ∃ A, A = (a' && !decide (n' = 0)) := ⟨_, rfl⟩
          obtain ⟨B', hB'⟩ : ∃ A, A = (b' && !decide (n' = 1)) := ⟨_, rfl⟩
          obtain ⟨C, hC'⟩ : ∃ A, A = (c' && !decide (n' = 2)) := ⟨_, rfl⟩
          obtain ⟨D, hD'⟩ : ∃ A, A = (d' && !decide (n' = 3)) := ⟨_, rfl⟩
          obtain ⟨E, hE'⟩ : ∃ A, A = (e' && !decide (n' = 4)) := ⟨_, rfl⟩
          obtain ⟨I, hI'⟩ : ∃ A, A = mAt a' b' c' d' e' n' := ⟨_, rfl⟩
          simp only [← hA', ← hB', ← hC', ← hD', ← hE', ← hI'] at cg
          have HQ := Lib.hid (And.intro hA' (And.intro hB' (And.intro hC' (And.intro hD' (And.intro hE' hI')))))
          clear hA' hB' hC' hD' hE' hI'
          go_wp2_with fail
          refine Calls.mono (cg _) ?_
          rintro v w3 ⟨rfl, hb3⟩
          have hA3 := below_at hb3 (by omega) HA.out
          have hB3 := below_at hb3 lB HB.out
          have hE3 : Below w.heap.size w w3 := HE.out.trans (hb3.mono hsz)
          have hl3 : w1.heap.size + 1 < w3.heap.size := lt_heap hB3
          have hA4 := (Below.heap_alloc w3 (.cells #[.bool A, .bool B', .bool C, .bool D, .bool E] 71) w1.heap.size (by omega)).trans hA3
          have hB4 := (Below.heap_alloc w3 (.cells #[.bool A, .bool B', .bool C, .bool D, .bool E] 71) (w1.heap.size + 1) (by omega)).trans hB3
          have hN4 := heap_alloc_self w3 (.cells #[.bool A, .bool B', .bool C, .bool D, .bool E] 71)
          have hE4 := hE3.alloc hE3.size (.cells #[.bool A, .bool B', .bool C, .bool D, .bool E] 71)
          clear hb3 hA3 hB3 hE3 x0 x1 x2 x3 x4 HA HB HE cg lB hsz
          go_upto_region 14 with fail
          generalize w3.alloc (.cells #[.bool A, .bool B', .bool C, .bool D, .bool E] 71) = w4 at *
          generalize w3.heap.size = g at *
          have n0 : w4.cell? ⟨g, 0, none⟩ = some (.bool A) := by simp [World.cell?, hN4]
          have n1 : w4.cell? ⟨g, 1, none⟩ = some (.bool B') := by simp [World.cell?, hN4]
          have n2 : w4.cell? ⟨g, 2, none⟩ = some (.bool C) := by simp [World.cell?, hN4]
          have n3 : w4.cell? ⟨g, 3, none⟩ = some (.bool D) := by simp [World.cell?, hN4]
          have n4 : w4.cell? ⟨g, 4, none⟩ = some (.bool E) := by simp [World.cell?, hN4]
          have x0 : w4.cell? ⟨w1.heap.size, 0, none⟩ = some (.bool a') := by simp [World.cell?, hA4]
          have x1 : w4.cell? ⟨w1.heap.size, 1, none⟩ = some (.bool b') := by simp [World.cell?, hA4]
          have x2 : w4.cell? ⟨w1.heap.size, 2, none⟩ = some (.bool c') := by simp [World.cell?, hA4]
          have x3 : w4.cell? ⟨w1.heap.size, 3, none⟩ = some (.bool d') := by simp [World.cell?, hA4]
          have x4 : w4.cell? ⟨w1.heap.size, 4, none⟩ = some (.bool e') := by simp [World.cell?, hA4]
          have y0 : w4.cell? ⟨w1.heap.size + 1, 0, none⟩ = some (.bool a') := by simp [World.cell?, hB4]
          have y1 : w4.cell? ⟨w1.heap.size + 1, 1, none⟩ = some (.bool b') := by simp [World.cell?, hB4]
          have y2 : w4.cell? ⟨w1.heap.size + 1, 2, none⟩ = some (.bool c') := by simp [World.cell?, hB4]
          have y3 : w4.cell? ⟨w1.heap.size + 1, 3, none⟩ = some (.bool d') := by simp [World.cell?, hB4]
          have y4 : w4.cell? ⟨w1.heap.size + 1, 4, none⟩ = some (.bool e') := by simp [World.cell?, hB4]
          have fx : ∀ j, w4.frozen? ⟨w1.heap.size, j, none⟩ = false := fun j => by simp [World.frozen?, hA4]
          have fy : ∀ j, w4.frozen? ⟨w1.heap.size + 1, j, none⟩ = false := fun j => by simp [World.frozen?, hB4]
          have HA := Lib.hid hA4
          have HB := Lib.hid hB4
          have HE := Lib.hid hE4
          clear hA4 hB4 hN4 hE4
          go_cut [89] (fun s wx => s = .bool false ∧ wx = w4)
          case first =>
            have hn' : n' = 0 ∨ n' = 1 ∨ n' = 2 ∨ n' = 3 ∨ n' = 4 ∨ n' < 0 ∨ (0 ≤ n' ∧ 5 ≤ n') := by omega
            rcases hn' with rfl | rfl | rfl | rfl | rfl | hn' | ⟨hn', hn''⟩
            all_goals
              have hi := HQ.out.2.2.2.2.2
              simp [mAt] at hi
              first | (have h0 : I = false := (by rw [hi]; simp; omega); subst h0; clear hi) | subst hi
              go_wp2_with fail
              go_meet
              exact ⟨rfl, rfl⟩
          case rest =>
            obtain ⟨rfl, rfl⟩ := hcut
            go_upto_if 91 with fail
            have cA : (((((wc.setCell ⟨w1.heap.size, 0, none⟩ (.bool A)).setCell ⟨w1.heap.size, 1, none⟩ (.bool B')).setCell ⟨w1.heap.size, 2, none⟩ (.bool C)).setCell ⟨w1.heap.size, 3, none⟩ (.bool D)).setCell ⟨w1.heap.size, 4, none⟩ (.bool E)).heap[w1.heap.size]? = some (.cells #[.bool A, .bool B', .bool C, .bool D, .bool E] 71) := heap_set_self (heap_set_self (heap_set_self (heap_set_self (heap_set_self HA.out 0 _) 1 _) 2 _) 3 _) 4 _
            have cB : (((((wc.setCell ⟨w1.heap.size, 0, none⟩ (.bool A)).setCell ⟨w1.heap.size, 1, none⟩ (.bool B')).setCell ⟨w1.heap.size, 2, none⟩ (.bool C)).setCell ⟨w1.heap.size, 3, none⟩ (.bool D)).setCell ⟨w1.heap.size, 4, none⟩ (.bool E)).heap[w1.heap.size + 1]? = some (.cells #[.bool a', .bool b', .bool c', .bool d', .bool e'] 69) := (Below.heap_setCell _ _ _ _ (by simp)).trans ((Below.heap_setCell _ _ _ _ (by simp)).trans ((Below.heap_setCell _ _ _ _ (by simp)).trans ((Below.heap_setCell _ _ _ _ (by simp)).trans ((Below.heap_setCell _ _ _ _ (by simp)).trans HB.out))))
            have cE : Below w.heap.size w (((((wc.setCell ⟨w1.heap.size, 0, none⟩ (.bool A)).setCell ⟨w1.heap.size, 1, none⟩ (.bool B')).setCell ⟨w1.heap.size, 2, none⟩ (.bool C)).setCell ⟨w1.heap.size, 3, none⟩ (.bool D)).setCell ⟨w1.heap.size, 4, none⟩ (.bool E)) := ((((HE.out.setCell (by simpa using s1) _).setCell (by simpa using s1) _).setCell (by simpa using s1) _).setCell (by simpa using s1) _).setCell (by simpa using s1) _
            clear n0 n1 n2 n3 n4 x0 x1 x2 x3 x4 y0 y1 y2 y3 y4 fx fy HA HB HE
            generalize (((((wc.setCell ⟨w1.heap.size, 0, none⟩ (.bool A)).setCell ⟨w1.heap.size, 1, none⟩ (.bool B')).setCell ⟨w1.heap.size, 2, none⟩ (.bool C)).setCell ⟨w1.heap.size, 3, none⟩ (.bool D)).setCell ⟨w1.heap.size, 4, none⟩ (.bool E)) = w5 at *
            go_cut [] (fun wx => TwoRel w1.heap.size w wx)
            case first =>
              have y0 : w5.cell? ⟨w1.heap.size + 1, 0, none⟩ = some (.bool a') := by simp [World.cell?, cB]
              have y1 : w5.cell? ⟨w1.heap.size + 1, 1, none⟩ = some (.bool b') := by simp [World.cell?, cB]
              have y2 : w5.cell? ⟨w1.heap.size + 1, 2, none⟩ = some (.bool c') := by simp [World.cell?, cB]
              have y3 : w5.cell? ⟨w1.heap.size + 1, 3, none⟩ = some (.bool d') := by simp [World.cell?, cB]
              have y4 : w5.cell? ⟨w1.heap.size + 1, 4, none⟩ = some (.bool e') := by simp [World.cell?, cB]
              have fy : ∀ j, w5.frozen? ⟨w1.heap.size + 1, j, none⟩ = false := fun j => by simp [World.frozen?, cB]
              have CA := Lib.hid cA
              have CB := Lib.hid cB
              have CE := Lib.hid cE
              clear cA cB cE
              cases I
              · go_wp2_with fail
                go_meet
                refine ⟨A, B', C, D, E, CA.out, ?_, CE.out⟩
                obtain ⟨h0, h1, h2, h3, h4, h5⟩ := HQ.out
                obtain ⟨k0, k1, k2, k3, k4⟩ := mAt_keep a' b' c' d' e' n' h5.symm
                rw [CB.out, h0, h1, h2, h3, h4, k0, k1, k2, k3, k4]
              · have hn' : n' = 0 ∨ n' = 1 ∨ n' = 2 ∨ n' = 3 ∨ n' = 4 ∨ ¬ (0 ≤ n' ∧ n' < 5) := by omega
                rcases hn' with rfl | rfl | rfl | rfl | rfl | hn'
                all_goals
                  obtain ⟨h0, h1, h2, h3, h4, h5⟩ := HQ.out
                  simp [mAt] at h0 h1 h2 h3 h4 h5
                iterate 5
                  rotate_left
                · exfalso
                  omega
                all_goals
                  have H := Lib.hid (And.intro h0 (And.intro h1 (And.intro h2 (And.intro h3 h4))))
                  clear h0 h1 h2 h3 h4 h5
                  go_wp2_with fail
                  go_meet
                  refine ⟨A, B', C, D, E, (Below.heap_setCell _ _ _ _ (by simp)).trans CA.out, ?_, CE.out.setCell (by simp; omega) _⟩
                  rw [heap_set_self CB.out]
                  obtain ⟨h0, h1, h2, h3, h4⟩ := H.out
                  simp [h0, h1, h2, h3, h4]
            case rest =>
              clear HQ HF HZ2 hmn hLb1 hLb2 hLb3
              obtain ⟨p0, p1, p2, p3, p4, hA, hB, hbel⟩ := hcut
              have x0 : wc.cell? ⟨w1.heap.size, 0, none⟩ = some (.bool p0) := by simp [World.cell?, hA]
              have x1 : wc.cell? ⟨w1.heap.size, 1, none⟩ = some (.bool p1) := by simp [World.cell?, hA]
              have x2 : wc.cell? ⟨w1.heap.size, 2, none⟩ = some (.bool p2) := by simp [World.cell?, hA]
              have x3 : wc.cell? ⟨w1.heap.size, 3, none⟩ = some (.bool p3) := by simp [World.cell?, hA]
              have x4 : wc.cell? ⟨w1.heap.size, 4, none⟩ = some (.bool p4) := by simp [World.cell?, hA]
              obtain ⟨f, hf⟩ : ∃ f, f = pB p0 p1 p2 p3 p4 := ⟨_, rfl⟩
              have cl := left_any p0 p1 p2 p3 p4
              have cd := fun w => done_any p0 p1 p2 p3 p4 w
              have hz := leftK_zero p0 p1 p2 p3 p4
              rw [← hf] at cl hz
              rw [hz] at cd
              have f0 : f 0 = p0 := by rw [hf]; rfl
              have f1 : f 1 = p1 := by rw [hf]; rfl
              have f2 : f 2 = p2 := by rw [hf]; rfl
              have f3 : f 3 = p3 := by rw [hf]; rfl
              have f4 : f 4 = p4 := by rw [hf]; rfl
              have F := Lib.hid (And.intro f0 (And.intro f1 (And.intro f2 (And.intro f3 f4))))
              have HA := Lib.hid hA
              have HB := Lib.hid hB
              have HE := Lib.hid hbel
              have hsz := hbel.size
              have lA := lt_heap hA
              have lB := lt_heap hB
              have hle := leftK_le f 5
              clear f0 f1 f2 f3 f4 hf hA hB hbel hz
              go_wp2_with fail
              refine Calls.mono (cl _) ?_
              rintro v w6 ⟨v, rfl, hs, hb6⟩
              obtain ⟨ad3, cap3, rfl, hc3, hm3⟩ := hs.form
              unfold maxLen at hm3
              have hA := below_at hb6 lA HA.out
              have hB := below_at hb6 lB HB.out
              have HE6 := Lib.hid (HE.out.trans (hb6.mono hsz))
              obtain ⟨n5, hn5⟩ : ∃ n5, (leftK f 5).length = n5 := ⟨_, rfl⟩
              simp only [hn5] at hs cd hle hc3
              rw [hn5]
              have HS := Lib.hid hs
              have H5 := Lib.hid hn5
              clear x0 x1 x2 x3 x4 HA HB HE hb6 hs hn5 cl
              have x0 : w6.cell? ⟨w1.heap.size, 0, none⟩ = some (.bool p0) := by simp [World.cell?, hA]
              have x1 : w6.cell? ⟨w1.heap.size, 1, none⟩ = some (.bool p1) := by simp [World.cell?, hA]
              have x2 : w6.cell? ⟨w1.heap.size, 2, none⟩ = some (.bool p2) := by simp [World.cell?, hA]
              have x3 : w6.cell? ⟨w1.heap.size, 3, none⟩ = some (.bool p3) := by simp [World.cell?, hA]
              have x4 : w6.cell? ⟨w1.heap.size, 4, none⟩ = some (.bool p4) := by simp [World.cell?, hA]
              have y0 : w6.cell? ⟨w1.heap.size + 1, 0, none⟩ = some (.bool p0) := by simp [World.cell?, hB]
              have y1 : w6.cell? ⟨w1.heap.size + 1, 1, none⟩ = some (.bool p1) := by simp [World.cell?, hB]
              have y2 : w6.cell? ⟨w1.heap.size + 1, 2, none⟩ = some (.bool p2) := by simp [World.cell?, hB]
              have y3 : w6.cell? ⟨w1.heap.size + 1, 3, none⟩ = some (.bool p3) := by simp [World.cell?, hB]
              have y4 : w6.cell? ⟨w1.heap.size + 1, 4, none⟩ = some (.bool p4) := by simp [World.cell?, hB]
              have hsz6 := HE6.out.size
              have HA6 := Lib.hid hA
              have HB6 := Lib.hid hB
              clear hA hB lA lB
              go_wp2_with fail
              go_loop [13, 14] (fun y x => ∃ j n : Nat, j ≤ 5 ∧ n ≤ j ∧ x = .int .i64 j ∧ y = .int .i64 n ∧ LenIs f j n) (fun _ x => 5 - (intOf x).toNat)
              case atStart => exact ⟨0, 0, by omega, by omega, rfl, rfl, rfl⟩
              case round =>
                obtain ⟨j, n, hj, hnj, rfl, rfl, hlen⟩ := hrel
                have hj' : j = 0 ∨ j = 1 ∨ j = 2 ∨ j = 3 ∨ j = 4 ∨ j = 5 := by omega
                have HL := Lib.hid hlen
                clear hlen
                rcases hj' with rfl | rfl | rfl | rfl | rfl | rfl
                · cases p0
                  · go_wp2_with fail
                    go_round
                    case rel => exact ⟨1, n, by omega, by omega, rfl, rfl, len_false HL.out F.out.1⟩
                    case measure => simp [intOf]
                  · obtain ⟨ht, hg⟩ := leftK_at f 0 (by omega) F.out.1
                    have hl := HL.out
                    unfold LenIs at hl
                    rw [hl, H5.out] at ht
                    rw [hl] at hg
                    obtain ⟨b3, off3, rfl, hb3, hcell3⟩ := HS.out.int (by omega)
                    have hc3' := hcell3 n ht
                    rw [hg] at hc3'
                    clear hcell3 hg hl
                    go_wp2_with fail
                    go_round
                    case rel => exact ⟨1, n + 1, by omega, by omega, rfl, by go_num, len_true HL.out F.out.1⟩
                    case measure => simp [intOf]
                · cases p1
                  · go_wp2_with fail
                    go_round
                    case rel => exact ⟨2, n, by omega, by omega, rfl, rfl, len_false HL.out F.out.2.1⟩
                    case measure => simp [intOf]
                  · obtain ⟨ht, hg⟩ := leftK_at f 1 (by omega) F.out.2.1
                    have hl := HL.out
                    unfold LenIs at hl
                    rw [hl, H5.out] at ht
                    rw [hl] at hg
                    obtain ⟨b3, off3, rfl, hb3, hcell3⟩ := HS.out.int (by omega)
                    have hc3' := hcell3 n ht
                    rw [hg] at hc3'
                    clear hcell3 hg hl
                    go_wp2_with fail
                    go_round
                    case rel => exact ⟨2, n + 1, by omega, by omega, rfl, by go_num, len_true HL.out F.out.2.1⟩
                    case measure => simp [intOf]
                · cases p2
                  · go_wp2_with fail
                    go_round
                    case rel => exact ⟨3, n, by omega, by omega, rfl, rfl, len_false HL.out F.out.2.2.1⟩
                    case measure => simp [intOf]
                  · obtain ⟨ht, hg⟩ := leftK_at f 2 (by omega) F.out.2.2.1
                    have hl := HL.out
                    unfold LenIs at hl
                    rw [hl, H5.out] at ht
                    rw [hl] at hg
                    obtain ⟨b3, off3, rfl, hb3, hcell3⟩ := HS.out.int (by omega)
                    have hc3' := hcell3 n ht
                    rw [hg] at hc3'
                    clear hcell3 hg hl
                    go_wp2_with fail
                    go_round
                    case rel => exact ⟨3, n + 1, by omega, by omega, rfl, by go_num, len_true HL.out F.out.2.2.1⟩
                    case measure => simp [intOf]
                · cases p3
                  · go_wp2_with fail
                    go_round
                    case rel => exact ⟨4, n, by omega, by omega, rfl, rfl, len_false HL.out F.out.2.2.2.1⟩
                    case measure => simp [intOf]
                  · obtain ⟨ht, hg⟩ := leftK_at f 3 (by omega) F.out.2.2.2.1
                    have hl := HL.out
                    unfold LenIs at hl
                    rw [hl, H5.out] at ht
                    rw [hl] at hg
                    obtain ⟨b3, off3, rfl, hb3, hcell3⟩ := HS.out.int (by omega)
                    have hc3' := hcell3 n ht
                    rw [hg] at hc3'
                    clear hcell3 hg hl
                    go_wp2_with fail
                    go_round
                    case rel => exact ⟨4, n + 1, by omega, by omega, rfl, by go_num, len_true HL.out F.out.2.2.2.1⟩
                    case measure => simp [intOf]
                · cases p4
                  · go_wp2_with fail
                    go_round
                    case rel => exact ⟨5, n, by omega, by omega, rfl, rfl, len_false HL.out F.out.2.2.2.2⟩
                    case measure => simp [intOf]
                  · obtain ⟨ht, hg⟩ := leftK_at f 4 (by omega) F.out.2.2.2.2
                    have hl := HL.out
                    unfold LenIs at hl
                    rw [hl, H5.out] at ht
                    rw [hl] at hg
                    obtain ⟨b3, off3, rfl, hb3, hcell3⟩ := HS.out.int (by omega)
                    have hc3' := hcell3 n ht
                    rw [hg] at hc3'
                    clear hcell3 hg hl
                    go_wp2_with fail
                    go_round
                    case rel => exact ⟨5, n + 1, by omega, by omega, rfl, by go_num, len_true HL.out F.out.2.2.2.2⟩
                    case measure => simp [intOf]
                · have hl := HL.out
                  unfold LenIs at hl
                  rw [H5.out] at hl
                  subst hl
                  by_cases h0 : n5 = 0
                  · subst h0
                    simp only [decide_true] at cd
                    go_wp2_with fail
                    refine Calls.mono (cd _) ?_
                    rintro v w7 ⟨rfl, hb7⟩
                    have h7 : TwoRel w1.heap.size w w7 := ⟨p0, p1, p2, p3, p4, below_at hb7 (lt_heap HA6.out) HA6.out, below_at hb7 (lt_heap HB6.out) HB6.out, HE6.out.trans (hb7.mono hsz6)⟩
                    have H7 := Lib.hid h7
                    clear hb7 h7
                    go_wp2_with fail
                    go_roundw
                    case rel => exact ⟨k + 1, by omega, by omega, by go_num, H7.out⟩
                    case measure => simp [intOf]; omega
                  · have hd : decide (n5 = 0) = false := by simpa using h0
                    have h0' : ((n5 : Int) == 0) = false := by rw [beq_eq_false_iff_ne]; omega
                    simp only [hd] at cd
                    clear hd
                    go_wp2_with fail
                    refine Calls.mono (cd _) ?_
                    rintro v w7 ⟨rfl, hb7⟩
                    have h7 : TwoRel w1.heap.size w w7 := ⟨p0, p1, p2, p3, p4, below_at hb7 (lt_heap HA6.out) HA6.out, below_at hb7 (lt_heap HB6.out) HB6.out, HE6.out.trans (hb7.mono hsz6)⟩
                    have H7 := Lib.hid h7
                    clear hb7 h7
                    go_wp2_with fail
                    go_roundw
                    case rel => exact ⟨k + 1, by omega, by omega, by go_num, H7.out⟩
                    case measure => simp [intOf]; omega
      · obtain ⟨p0, p1, p2, p3, p4, -, -, hbel⟩ := htw
        have hout : ¬ (k < len2) ∨ (k < len2 ∧ ¬ ((k : Int) < 20)) := by omega
        have hsz := hbel.size
        have HE := Lib.hid hbel
        have cof : ∀ w, Calls Try.prog 45 #[.slice none 0 0] w fun e w' => e = .returned (.agg #[.bool false, .bool false, .bool false, .bool false, .bool false]) ∧ Below w.heap.size w w' := fun w => by simpa using of_any _ [] w (SR.nil_ w 1)
        have cd := fun w => done_any false false false false false w
        simp only [Bool.or_self, Bool.not_false] at cd
        clear hin hbel
        rcases hout with ho | ⟨ho, ho2⟩
        all_goals
          go_wp2_with fail
          refine Calls.mono (pend_awake _) ?_
          rintro v wa ⟨rfl, hba⟩
          have ea := HE.out.trans (hba.mono hsz)
          have za := ea.size
          have EA := Lib.hid ea
          clear hba ea
          go_wp2_with fail
          refine Calls.mono (cof _) ?_
          rintro v wb ⟨rfl, hbb⟩
          have eb := EA.out.trans (hbb.mono za)
          have zb := eb.size
          have EB := Lib.hid eb
          clear hbb eb
          go_wp2_with fail
          refine Calls.mono (cd _) ?_
          rintro v wd ⟨rfl, hbd⟩
          have ED := Lib.hid (EB.out.trans (hbd.mono zb))
          clear hbd
          go_wp2_with fail
          go_ret
          exact ⟨rfl, ED.out⟩
end Go.Proofs.Ytlabjemjhokcaaa
