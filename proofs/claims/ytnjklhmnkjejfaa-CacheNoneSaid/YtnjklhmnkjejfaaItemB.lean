/-
  item: Of; Block: a block's bytes.
-/
import Derived.Test.YtnjklhmnkjejfaaItem
import Derived.Test.YtnjklhmnkjejfaaBytes
namespace Go.Proofs.Ytnjklhmnkjejfaa
open Go.RowKit
set_option linter.unusedVariables false
set_option linter.unusedSimpArgs false

theorem bCells_set (l : List UInt8) (i : Nat) (c : UInt8) : (bCells l).toArray.setIfInBounds i (.int .u8 c.toNat) = (bCells (l.set i c)).toArray := by
  simp [bCells, List.map_set]
theorem block_step {w wr : World} {G j : Nat} {l : List UInt8} {c : UInt8} {t : TypeId} (hl : l.length = 32) (hx : wr.heap[G]? = some (.cells (bCells l).toArray t)) (hb : Below G w wr) :
    ∃ l' : List UInt8, l'.length = 32 ∧ (wr.setCell ⟨G, j, none⟩ (.int .u8 c.toNat)).heap[G]? = some (.cells (bCells l').toArray t) ∧ Below G w (wr.setCell ⟨G, j, none⟩ (.int .u8 c.toNat)) :=
  ⟨l.set j c, by rw [List.length_set]; exact hl, by rw [heap_set_self hx, bCells_set], hb.setCell (Nat.le_refl _) _⟩
theorem conv_block {P : Program} {src dst e : TypeId} (hs : P.underlying src = some (.slice e)) (he : P.underlying e = some (.int .u8)) (hd : P.underlying dst = some .string) {w : World} {g n : Nat} {l : List UInt8} {t : TypeId} {fr : Nat × Nat} (c : Nat) (hn : n = l.length)
    (h : w.heap[g]? = some (.cells (bCells l).toArray t fr)) : (convert src dst (.slice (some ⟨g, 0, none⟩) n c)).run P w = .ok (.string ⟨l.toArray⟩) w := by
  subst hn
  refine run_convert_bytes_back w src dst e ⟨g, 0, none⟩ c l hs he hd fun j hj => ?_
  have e1 : (⟨g, 0, none⟩ : Addr).add j = ⟨g, j, none⟩ := by unfold Addr.add; split <;> simp_all
  rw [e1]
  simp [World.cell?, h, bCells, hj]
set_option maxHeartbeats 1600000 in
set_option maxRecDepth 100000 in
theorem block_any (s : ByteArray) (w : World) (hs : s.size ≤ maxLen) : Calls Try.prog 57 #[.string s] w fun e w' => ∃ T : ByteArray, e = .returned (.string T) ∧ T.size = 32 ∧ (s = ⟨#[]⟩ → T = zeroL 32) ∧ Below w.heap.size w w' := by
  unfold maxLen at hs
  have hmk : ∀ w, (Instr.makeSlice 101 (.int .i64 32) (.int .i64 32)).run Try.prog w = .ok (.slice (some ⟨w.heap.size, 0, none⟩) 32 32) (w.alloc (.cells (bCells (List.replicate 32 0)).toArray 5)) := fun _ => by kernel_rfl
  have hx := heap_alloc_self w (.cells (bCells (List.replicate 32 0)).toArray 5)
  have hb0 : Below w.heap.size w (w.alloc (.cells (bCells (List.replicate 32 0)).toArray 5)) := (Below.refl _ _).alloc (Nat.le_refl _) _
  obtain ⟨l0, hl0⟩ : ∃ l : List UInt8, List.replicate 32 0 = l := ⟨_, rfl⟩
  rw [hl0] at hmk hx hb0
  have HL0 := Lib.hid hl0
  clear hl0
  go_enter Try.func57, Try.ntmps57
  go_upto_region 2 with fail
  generalize w.alloc (.cells (bCells l0).toArray 5) = w1 at *
  have HX := Lib.hid hx
  have HB := Lib.hid hb0
  clear hx hb0 hmk
  obtain ⟨G, hG⟩ : ∃ G, w.heap.size = G := ⟨_, rfl⟩
  rw [hG] at HX HB ⊢
  have hl0 : l0.length = 32 := by rw [← HL0.out]; simp
  by_cases h0 : s.size = 0
  · have hs0 : s = ⟨#[]⟩ := by
      have e : s = ByteArray.empty := by simpa using h0
      exact e.trans rfl
    subst hs0
    have hcv := conv_block (P := Try.prog) (src := 101) (dst := 9) Try.underlying101 Try.underlying5 Try.underlying9 32 hl0.symm HX.out
    go_wp2_with fail
    go_loopw [4] (fun i wr => i = .int .i64 0 ∧ wr = w1) (fun i _ => 0)
    case atStart => exact ⟨rfl, rfl⟩
    case round =>
      obtain ⟨rfl, rfl⟩ := hrel
      go_wp2_with fail
      go_ret
      exact ⟨_, rfl, by simpa [ByteArray.size] using hl0, by rw [← HL0.out]; rfl, HB.out⟩
  · have hp : 0 < (s.size : Int) := by omega
    have hne : s ≠ ⟨#[]⟩ := fun h => h0 (by rw [h]; rfl)
    go_wp2_with fail
    go_loopw [4] (fun i wr => ∃ j : Nat, j ≤ 32 ∧ i = .int .i64 j ∧ ∃ l : List UInt8, l.length = 32 ∧ wr.heap[G]? = some (.cells (bCells l).toArray 5) ∧ Below G w wr) (fun i _ => 32 - (intOf i).toNat)
    case atStart => exact ⟨0, by omega, rfl, l0, hl0, HX.out, HB.out⟩
    case round =>
      obtain ⟨j, hj, rfl, l, hl, hx, hbr⟩ := hrel
      have HXr := Lib.hid hx
      have HBr := Lib.hid hbr
      by_cases hlt : j < 32
      · have hc : wr.cell? ⟨G, j, none⟩ = some (.int .u8 (l.getD j 0).toNat) := by
          simp [World.cell?, hx, bCells, List.getD, hl, hlt]
        have hf : wr.frozen? ⟨G, j, none⟩ = false := by simp [World.frozen?, hx]
        have ht0 : 0 ≤ (j : Int) % (s.size : Int) := Int.emod_nonneg _ (by omega)
        have ht1 : (j : Int) % (s.size : Int) < (s.size : Int) := Int.emod_lt_of_pos _ hp
        have ht2 : j % s.size < s.size := Nat.mod_lt _ (by omega)
        clear hx hbr
        go_wp2_with fail
        go_roundw
        case rel => exact ⟨j + 1, by omega, by go_num, block_step hl HXr.out HBr.out⟩
        case measure => simp [intOf]; omega
      · have hcv := conv_block (P := Try.prog) (src := 101) (dst := 9) Try.underlying101 Try.underlying5 Try.underlying9 32 hl.symm hx
        obtain rfl : j = 32 := by omega
        clear hx hbr
        go_wp2_with fail
        go_ret
        exact ⟨_, rfl, by simpa [ByteArray.size] using hl, fun h => absurd h hne, by rw [hG]; exact HBr.out⟩
end Go.Proofs.Ytnjklhmnkjejfaa
