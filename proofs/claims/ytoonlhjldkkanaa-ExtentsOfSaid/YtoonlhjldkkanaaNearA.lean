/-
  A block's bytes, the same whenever they are asked for: a function of the text alone; and so is an item near another one.
-/
import Derived.Test.YtoonlhjldkkanaaIputD
namespace Go.Proofs.Ytoonlhjldkkanaa
open Go.RowKit
set_option linter.unusedVariables false
set_option linter.unusedSimpArgs false

def gB (s : ByteArray) (j : Nat) : UInt8 := s.data.toList.getD (j % s.size) 0
def blkL (s : ByteArray) : Nat → List UInt8
  | 0 => List.replicate 32 0
  | j + 1 => (blkL s j).set j (gB s j)
theorem blkL_length (s : ByteArray) (j : Nat) : (blkL s j).length = 32 := by
  induction j with
  | zero => simp [blkL]
  | succ j ih => simp [blkL, ih]
theorem block_next {w wr : World} {G j : Nat} {s : ByteArray} {c : UInt8} {t : TypeId} (hx : wr.heap[G]? = some (.cells (bCells (blkL s j)).toArray t)) (hb : Below G w wr) (hc : c = gB s j) :
    (wr.setCell ⟨G, j, none⟩ (.int .u8 c.toNat)).heap[G]? = some (.cells (bCells (blkL s (j + 1))).toArray t) ∧ Below G w (wr.setCell ⟨G, j, none⟩ (.int .u8 c.toNat)) :=
  ⟨by rw [heap_set_self hx, bCells_set, hc]; rfl, hb.setCell (Nat.le_refl _) _⟩
set_option maxHeartbeats 1600000 in
set_option maxRecDepth 100000 in
theorem block_some (s : ByteArray) (hs : s.size ≤ maxLen) (h0 : ¬ s.size = 0) (w : World) : Calls Try.prog 63 #[.string s] w fun e w' => e = .returned (.string ⟨(blkL s 32).toArray⟩) ∧ Below w.heap.size w w' := by
  unfold maxLen at hs
  have hmk : ∀ w, (Instr.makeSlice 110 (.int .i64 32) (.int .i64 32)).run Try.prog w = .ok (.slice (some ⟨w.heap.size, 0, none⟩) 32 32) (w.alloc (.cells (bCells (blkL s 0)).toArray 5)) := fun _ => by kernel_rfl
  have hx := heap_alloc_self w (.cells (bCells (blkL s 0)).toArray 5)
  have hb0 : Below w.heap.size w (w.alloc (.cells (bCells (blkL s 0)).toArray 5)) := (Below.refl _ _).alloc (Nat.le_refl _) _
  go_enter Try.func63, Try.ntmps63
  go_upto_region 2 with fail
  generalize w.alloc (.cells (bCells (blkL s 0)).toArray 5) = w1 at *
  have HX := Lib.hid hx
  have HB := Lib.hid hb0
  clear hx hb0 hmk
  obtain ⟨G, hG⟩ : ∃ G, w.heap.size = G := ⟨_, rfl⟩
  rw [hG] at HX HB ⊢
  have hp : 0 < (s.size : Int) := by omega
  go_wp2_with fail
  go_loopw [4] (fun i wr => ∃ j : Nat, j ≤ 32 ∧ i = .int .i64 j ∧ Hid (wr.heap[G]? = some (.cells (bCells (blkL s j)).toArray 5) ∧ Below G w wr)) (fun i _ => 32 - (intOf i).toNat)
  case atStart => exact ⟨0, by omega, rfl, Lib.hid ⟨HX.out, HB.out⟩⟩
  case round =>
    obtain ⟨j, hj, rfl, HR⟩ := hrel
    have hl := blkL_length s j
    obtain ⟨L, hL⟩ : ∃ L, blkL s j = L := ⟨_, rfl⟩
    have hx := HR.out.1
    rw [hL] at hx hl
    by_cases hlt : j < 32
    · have hc : wr.cell? ⟨G, j, none⟩ = some (.int .u8 (L.getD j 0).toNat) := by
        simp [World.cell?, hx, bCells, List.getD, hl, hlt]
      have hf : wr.frozen? ⟨G, j, none⟩ = false := by simp [World.frozen?, hx]
      have ht0 : 0 ≤ (j : Int) % (s.size : Int) := Int.emod_nonneg _ (by omega)
      have ht1 : (j : Int) % (s.size : Int) < (s.size : Int) := Int.emod_lt_of_pos _ hp
      have ht2 : j % s.size < s.size := Nat.mod_lt _ (by omega)
      clear hx
      go_wp2_with fail
      go_roundw
      case rel => exact ⟨j + 1, by omega, by go_num, Lib.hid (block_next HR.out.1 HR.out.2 (by unfold gB; rw [List.getD_eq_getElem?_getD, List.getElem?_eq_getElem (by simpa using ht2)]; rfl))⟩
      case measure => simp [intOf]; omega
    · have hcv := conv_block (P := Try.prog) (src := 110) (dst := 9) Try.underlying110 Try.underlying5 Try.underlying9 32 hl.symm hx
      obtain rfl : j = 32 := by omega
      clear hx
      have HL := Lib.hid hL
      clear hL
      go_wp2_with fail
      go_ret
      exact ⟨by rw [HL.out]; rfl, by rw [hG]; exact HR.out.2⟩
/-- a text's block -/
def blkD (s : ByteArray) : ByteArray := if s.size = 0 then zeroL 32 else ⟨(blkL s 32).toArray⟩
theorem blkD_size (s : ByteArray) : (blkD s).size = 32 := by
  unfold blkD
  split
  · exact zeroL_size 32
  · simpa [ByteArray.size] using blkL_length s 32
theorem block_det (s : ByteArray) (hs : s.size ≤ maxLen) (w : World) : Calls Try.prog 63 #[.string s] w fun e w' => e = .returned (.string (blkD s)) ∧ Below w.heap.size w w' := by
  by_cases h0 : s.size = 0
  · refine (block_any s w hs).mono ?_
    rintro e w' ⟨T, rfl, -, hT, hb⟩
    refine ⟨?_, hb⟩
    rw [hT (by have e : s = ByteArray.empty := by simpa using h0
               exact e.trans rfl), blkD, if_pos h0]
  · rw [blkD, if_neg h0]
    exact block_some s hs h0 w
/-- an item near another one -/
def nearD (s : ByteArray) (odd : Int) : ByteArray :=
  if bits .and .i64 odd 7 = 0 then ⟨#[]⟩ else if bits .and .i64 odd 7 = 1 then s.extract 0 (min (s.size : Int) 40).toNat else blkD (⟨#[49]⟩ ++ s.extract 0 (min (s.size : Int) 9).toNat)
theorem nearD_size (s : ByteArray) (odd : Int) : (nearD s odd).size ≤ 40 := by
  unfold nearD
  split
  · decide
  · split
    · rw [ByteArray.size_extract]; omega
    · rw [blkD_size]; omega
set_option maxRecDepth 100000 in
theorem near_det (v : Int) (s : ByteArray) (odd : Int) (hs : s.size ≤ maxLen) (w : World) :
    Calls Try.prog 15 #[.agg (itemA v s), .int .i64 odd] w fun e w' => e = .returned (.agg (itemA v (nearD s odd))) ∧ Below w.heap.size w w' := by
  unfold itemA nearD
  obtain ⟨t, ht⟩ : ∃ t, min (s.size : Int) 40 = t := ⟨_, rfl⟩
  have ht1 : t ≤ 40 := by omega
  have ht2 : t ≤ (s.size : Int) := by omega
  have ht0 : 0 ≤ t := by omega
  obtain ⟨q, hq⟩ : ∃ q, min (s.size : Int) 9 = q := ⟨_, rfl⟩
  have hq1 : q ≤ 9 := by omega
  have hq2 : q ≤ (s.size : Int) := by omega
  have hq0 : 0 ≤ q := by omega
  have cb := fun w => block_det (⟨#[49]⟩ ++ s.extract 0 q.toNat) (by
    have : (s.extract 0 q.toNat).size ≤ s.size := by rw [ByteArray.size_extract]; omega
    have h2 : (s.extract 0 q.toNat).size ≤ 9 := by rw [ByteArray.size_extract]; omega
    rw [ByteArray.size_append]; unfold maxLen; show 1 + _ ≤ _; omega) w
  obtain ⟨T, hT⟩ : ∃ T, blkD (⟨#[49]⟩ ++ s.extract 0 q.toNat) = T := ⟨_, rfl⟩
  rw [hT] at cb
  obtain ⟨m, hm⟩ : ∃ m, bits .and .i64 odd 7 = m := ⟨_, rfl⟩
  rw [ht, hq, hT, hm]
  obtain ⟨R, hR⟩ : ∃ R : ByteArray, (if m = 0 then ⟨#[]⟩ else if m = 1 then s.extract 0 t.toNat else T) = R := ⟨_, rfl⟩
  rw [hR]
  have HRR := Lib.hid hR
  clear hR
  have hx0 := heap_alloc_self (w.alloc (.cells #[.int .u64 v, .string s] 24)) (.cells #[.int .u64 0, .string ⟨#[]⟩] 24)
  have hy0 := Below.heap_alloc (w.alloc (.cells #[.int .u64 v, .string s] 24)) (.cells #[.int .u64 0, .string ⟨#[]⟩] 24) w.heap.size (by simp)
  rw [heap_alloc_self] at hy0
  have hb0 : Below w.heap.size w ((w.alloc (.cells #[.int .u64 v, .string s] 24)).alloc (.cells #[.int .u64 0, .string ⟨#[]⟩] 24)) := ((Below.refl _ _).alloc (Nat.le_refl _) _).alloc (by simp) _
  rw [show (w.alloc (.cells #[.int .u64 v, .string s] 24)).heap.size = w.heap.size + 1 by simp] at hx0
  clear hT
  go_enter Try.func15, Try.ntmps15
  go_upto_region 1 with fail
  generalize (w.alloc (.cells #[.int .u64 v, .string s] 24)).alloc (.cells #[.int .u64 0, .string ⟨#[]⟩] 24) = w0 at *
  obtain ⟨B, hB⟩ : ∃ B, w.heap.size = B := ⟨_, rfl⟩
  rw [hB] at hx0 hy0 hb0
  try rw [hB]
  have a0 : w0.cell? ⟨B, 0, none⟩ = some (.int .u64 v) := by simp [World.cell?, hy0]
  have r0 : w0.cell? ⟨B + 1, 0, none⟩ = some (.int .u64 0) := by simp [World.cell?, hx0]
  have r1 : w0.cell? ⟨B + 1, 1, none⟩ = some (.string ⟨#[]⟩) := by simp [World.cell?, hx0]
  have g0 : w0.frozen? ⟨B + 1, 0, none⟩ = false := by simp [World.frozen?, hx0]
  have g1 : w0.frozen? ⟨B + 1, 1, none⟩ = false := by simp [World.frozen?, hx0]
  have hx1 := heap_set_self (heap_set_self hx0 0 (.int .u64 v)) 1 (.string ⟨#[]⟩)
  have hy1 : ((w0.setCell ⟨B + 1, 0, none⟩ (.int .u64 v)).setCell ⟨B + 1, 1, none⟩ (.string ⟨#[]⟩)).heap[B]? = _ := (Below.heap_setCell _ _ _ _ (by show B ≠ B + 1; omega)).trans ((Below.heap_setCell _ _ _ _ (by show B ≠ B + 1; omega)).trans hy0)
  have hb1 : Below B w ((w0.setCell ⟨B + 1, 0, none⟩ (.int .u64 v)).setCell ⟨B + 1, 1, none⟩ (.string ⟨#[]⟩)) := (hb0.setCell (Nat.le_succ B) _).setCell (Nat.le_succ B) _
  clear hx0 hy0 hb0
  go_upto_region 2 with fail
  generalize (w0.setCell ⟨B + 1, 0, none⟩ (.int .u64 v)).setCell ⟨B + 1, 1, none⟩ (.string ⟨#[]⟩) = w1 at *
  clear a0 r0 r1 g0 g1
  have hx2 : w1.heap[B + 1]? = some (.cells #[.int .u64 v, .string ⟨#[]⟩] 24) := by simpa using hx1
  have a0 : w1.cell? ⟨B, 0, none⟩ = some (.int .u64 v) := by simp [World.cell?, hy1]
  have a1 : w1.cell? ⟨B, 1, none⟩ = some (.string s) := by simp [World.cell?, hy1]
  have r0 : w1.cell? ⟨B + 1, 0, none⟩ = some (.int .u64 v) := by simp [World.cell?, hx2]
  have r1 : w1.cell? ⟨B + 1, 1, none⟩ = some (.string ⟨#[]⟩) := by simp [World.cell?, hx2]
  have g0 : w1.frozen? ⟨B + 1, 0, none⟩ = false := by simp [World.frozen?, hx2]
  have g1 : w1.frozen? ⟨B + 1, 1, none⟩ = false := by simp [World.frozen?, hx2]
  have HX := Lib.hid hx2
  have HB1 := Lib.hid hb1
  clear hx1 hx2 hy1 hb1
  by_cases hm0 : m = 0
  · subst hm0
    obtain rfl : R = ⟨#[]⟩ := by rw [← HRR.out, if_pos rfl]
    go_wp2_with fail
    (try simp only [Exit.inBlock, Exit.then])
    obtain ⟨s0, s1⟩ := item_over HX.out v ⟨#[]⟩
    have FO := Lib.hid ((HB1.out.setCell (p := ⟨B + 1, 0, none⟩) (Nat.le_succ B) (.int .u64 v)).setCell (p := ⟨B + 1, 1, none⟩) (Nat.le_succ B) (.string ⟨#[]⟩))
    generalize (w1.setCell ⟨B + 1, 0, none⟩ (.int .u64 v)).setCell ⟨B + 1, 1, none⟩ (.string ⟨#[]⟩) = w5 at *
    refine bodyPost_ret (v := .agg #[.int .u64 v, .string ⟨#[]⟩]) (by simp [results, Try.results15, go_sem, s0, s1]) rfl ?_
    exact ⟨rfl, by first | exact FO.out | (rw [hB]; exact FO.out)⟩
  · by_cases hm1 : m = 1
    · subst hm1
      obtain ⟨E, hE⟩ : ∃ E : ByteArray, s.extract 0 t.toNat = E := ⟨_, rfl⟩
      obtain rfl : R = E := by rw [← HRR.out, if_neg hm0, if_pos rfl, hE]
      have hy : (w1.setCell ⟨B + 1, 1, none⟩ (.string R)).heap[B + 1]? = some (.cells #[.int .u64 v, .string R] 24) := by simpa using heap_set_self HX.out 1 (.string R)
      have hb := HB1.out.setCell (p := ⟨B + 1, 1, none⟩) (Nat.le_succ B) (.string R)
      have HY := Lib.hid hy
      have HBB := Lib.hid hb
      clear hy hb
      go_wp2_with fail
      (try simp only [Exit.inBlock, Exit.then])
      obtain ⟨s0, s1⟩ := item_over HY.out v R
      have FO := Lib.hid ((HBB.out.setCell (p := ⟨B + 1, 0, none⟩) (Nat.le_succ B) (.int .u64 v)).setCell (p := ⟨B + 1, 1, none⟩) (Nat.le_succ B) (.string R))
      generalize ((w1.setCell ⟨B + 1, 1, none⟩ (.string R)).setCell ⟨B + 1, 0, none⟩ (.int .u64 v)).setCell ⟨B + 1, 1, none⟩ (.string R) = w5 at *
      refine bodyPost_ret (v := .agg #[.int .u64 v, .string R]) (by simp [results, Try.results15, go_sem, s0, s1]) rfl ?_
      exact ⟨rfl, by first | exact FO.out | (rw [hB]; exact FO.out)⟩
    · obtain rfl : R = T := by rw [← HRR.out, if_neg hm0, if_neg hm1]
      have e0 : (m == 0) = false := by simpa using hm0
      have e1 : (m == 1) = false := by simpa using hm1
      go_wp2_with fail
      refine Calls.mono (cb _) ?_
      rintro e w2 ⟨rfl, hb2⟩
      have hx := below_at hb2 (lt_heap HX.out) HX.out
      clear r0 r1 g0 g1 a0 a1
      have r0 : w2.cell? ⟨B + 1, 0, none⟩ = some (.int .u64 v) := by simp [World.cell?, hx]
      have r1 : w2.cell? ⟨B + 1, 1, none⟩ = some (.string ⟨#[]⟩) := by simp [World.cell?, hx]
      have g0 : w2.frozen? ⟨B + 1, 0, none⟩ = false := by simp [World.frozen?, hx]
      have g1 : w2.frozen? ⟨B + 1, 1, none⟩ = false := by simp [World.frozen?, hx]
      have hy : (w2.setCell ⟨B + 1, 1, none⟩ (.string R)).heap[B + 1]? = some (.cells #[.int .u64 v, .string R] 24) := by simpa using heap_set_self hx 1 (.string R)
      have hb := (HB1.out.trans (hb2.mono (by have := HB1.out.size; omega))).setCell (p := ⟨B + 1, 1, none⟩) (Nat.le_succ B) (.string R)
      have HY := Lib.hid hy
      have HBB := Lib.hid hb
      clear hy hb hx hb2
      go_wp2_with fail
      (try simp only [Exit.inBlock, Exit.then])
      obtain ⟨s0, s1⟩ := item_over HY.out v R
      have FO := Lib.hid ((HBB.out.setCell (p := ⟨B + 1, 0, none⟩) (Nat.le_succ B) (.int .u64 v)).setCell (p := ⟨B + 1, 1, none⟩) (Nat.le_succ B) (.string R))
      generalize ((w2.setCell ⟨B + 1, 1, none⟩ (.string R)).setCell ⟨B + 1, 0, none⟩ (.int .u64 v)).setCell ⟨B + 1, 1, none⟩ (.string R) = w5 at *
      refine bodyPost_ret (v := .agg #[.int .u64 v, .string R]) (by simp [results, Try.results15, go_sem, s0, s1]) rfl ?_
      exact ⟨rfl, by first | exact FO.out | (rw [hB]; exact FO.out)⟩
end Go.Proofs.Ytoonlhjldkkanaa
