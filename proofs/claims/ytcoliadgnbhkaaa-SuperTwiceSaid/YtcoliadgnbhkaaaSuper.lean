/-
  super: a number's eight bytes and back; a sector's halves; Get, Put.
-/
import Derived.Test.YtcoliadgnbhkaaaItemB
import Derived.Deep.QuietTactic
import Derived.BigQuiet
namespace Go.Proofs.Ytcoliadgnbhkaaa
open Go.RowKit
set_option linter.unusedVariables false
set_option linter.unusedSimpArgs false

theorem s_or_byte (x : Nat) (c : UInt8) (h : x < 72057594037927936) : bits .or .u64 (IntKind.u64.wrap ((x : Int) * 256)) (IntKind.u64.wrap (c.toNat : Int)) = ((x * 256 + c.toNat : Nat) : Int) := by
  have hc := c.toNat_lt
  rw [IntKind.wrap_u64, IntKind.wrap_u64]
  rw [show ((x : Int) * 256) % 18446744073709551616 = ((x * 256 : Nat) : Int) by omega, show (c.toNat : Int) % 18446744073709551616 = (c.toNat : Int) by omega]
  have hb : bits .or .u64 ((x * 256 : Nat) : Int) (c.toNat : Int) = (((x * 256) ||| c.toNat : Nat) : Int) := by
    show IntKind.u64.wrap ((BitVec.ofInt 64 ((x * 256 : Nat) : Int) ||| BitVec.ofInt 64 (c.toNat : Int)).toNat : Nat) = _
    rw [BitVec.toNat_or]
    rw [show (BitVec.ofInt 64 ((x * 256 : Nat) : Int)).toNat = x * 256 by rw [BitVec.toNat_ofInt]; omega, show (BitVec.ofInt 64 (c.toNat : Int)).toNat = c.toNat by rw [BitVec.toNat_ofInt]; omega]
    have hl : (x * 256) ||| c.toNat < 2 ^ 64 := Nat.or_lt_two_pow (by omega) (by omega)
    rw [IntKind.wrap_u64]
    omega
  rw [hb]
  have := Nat.two_pow_add_eq_or_of_lt (i := 8) (b := c.toNat) (by omega) x
  rw [Nat.mul_comm x 256]
  exact congrArg _ this.symm
theorem s_valN_take (l : List UInt8) (k : Nat) (h : k < l.length) : valN (l.take (k + 1)) = valN (l.take k) * 256 + (l.getD k 0).toNat := by
  rw [List.take_succ_eq_append_getElem h, valN_snoc]
  simp [List.getD, h]
theorem s_valN_small (l : List UInt8) (k : Nat) (h : k ≤ 7) : valN (l.take k) < 72057594037927936 := by
  have h1 := valN_lt (l.take k)
  have h2 : (l.take k).length ≤ 7 := Nat.le_trans (List.length_take_le _ _) h
  exact Nat.lt_of_lt_of_le h1 (Nat.le_trans (Nat.pow_le_pow_right (by omega) h2) (by decide))
theorem s_or_byte2 (x : Nat) (c : UInt8) (h : x < 72057594037927936) : bits .or .u64 ((x : Int) * 256) (IntKind.u64.wrap (c.toNat : Int)) = ((x * 256 + c.toNat : Nat) : Int) := by
  have := s_or_byte x c h
  rw [IntKind.wrap_u64 ((x : Int) * 256), show ((x : Int) * 256) % 18446744073709551616 = (x : Int) * 256 by omega] at this
  exact this
theorem byte_nat (n k : Nat) : (n : Int) / 2 ^ (8 * k) % 256 = ((UInt8.ofNat (n / 256 ^ k)).toNat : Int) := by
  have := byte_at n (by omega) k
  simpa using this
theorem beN_take (k n : Nat) : (beN k n).take k = beN k n := List.take_of_length_le (by rw [beN_length]; omega)
/-- what eight bytes tell -/
def num8 (s : ByteArray) : Nat := valN (s.data.toList.take 8)
theorem num8_lt (s : ByteArray) : num8 s < 18446744073709551616 := by
  have h1 := valN_lt (s.data.toList.take 8)
  have h2 : (s.data.toList.take 8).length ≤ 8 := List.length_take_le _ _
  exact Nat.lt_of_lt_of_le h1 (Nat.le_trans (Nat.pow_le_pow_right (by omega) h2) (by decide))
/-- a number's eight bytes -/
def be8 (n : Nat) : ByteArray := ⟨(beN 8 n).toArray⟩
theorem be8_size (n : Nat) : (be8 n).size = 8 := by simp [be8, ByteArray.size, beN_length]
/-- the bytes that are laid, and noughts behind them -/
def beFill (n j : Nat) : List UInt8 := (beN 8 n).take j ++ List.replicate (8 - j) 0
theorem beFill_length (n j : Nat) (h : j ≤ 8) : (beFill n j).length = 8 := by simp [beFill, beN_length]; omega
theorem beFill_set (n j : Nat) (h : j < 8) : (beFill n j).set j (UInt8.ofNat (n / 256 ^ (7 - j))) = beFill n (j + 1) := by
  have hj : j = 0 ∨ j = 1 ∨ j = 2 ∨ j = 3 ∨ j = 4 ∨ j = 5 ∨ j = 6 ∨ j = 7 := by omega
  rcases hj with rfl | rfl | rfl | rfl | rfl | rfl | rfl | rfl <;> rfl
theorem be_step {w wr : World} {G j n : Nat} {t : TypeId} {c : Int} (hj : j < 8) (hc : c = ((UInt8.ofNat (n / 256 ^ (7 - j))).toNat : Int)) (hx : wr.heap[G]? = some (.cells (bCells (beFill n j)).toArray t)) (hb : Below G w wr) :
    (wr.setCell ⟨G, j, none⟩ (.int .u8 c)).heap[G]? = some (.cells (bCells (beFill n (j + 1))).toArray t) ∧ Below G w (wr.setCell ⟨G, j, none⟩ (.int .u8 c)) := by
  subst hc
  refine ⟨?_, hb.setCell (Nat.le_refl _) _⟩
  rw [heap_set_self hx, bCells_set, beFill_set n j hj]
set_option maxHeartbeats 800000 in
set_option maxRecDepth 100000 in
theorem sbytes (n : Nat) (w : World) (hn : n < 18446744073709551616) : Calls Try.prog 49 #[.int .u64 n] w fun e w' => e = .returned (.string (be8 n)) ∧ Below w.heap.size w w' := by
  have hx := heap_alloc_self w (.cells (bCells (beFill n 0)).toArray 112)
  have hb0 : Below w.heap.size w (w.alloc (.cells (bCells (beFill n 0)).toArray 112)) := (Below.refl _ _).alloc (Nat.le_refl _) _
  have hcs : (bCells (beFill n 0)).toArray = #[.int .u8 0, .int .u8 0, .int .u8 0, .int .u8 0, .int .u8 0, .int .u8 0, .int .u8 0, .int .u8 0] := rfl
  go_enter Try.func49, Try.ntmps49
  go_upto_region 2 with fail
  rw [hcs] at hx hb0
  try rw [hcs]
  generalize w.alloc (.cells #[.int .u8 0, .int .u8 0, .int .u8 0, .int .u8 0, .int .u8 0, .int .u8 0, .int .u8 0, .int .u8 0] 112) = w1 at *
  rw [← hcs] at hx
  have HX := Lib.hid hx
  have HB := Lib.hid hb0
  clear hx hb0 hcs
  obtain ⟨G, hG⟩ : ∃ G, w.heap.size = G := ⟨_, rfl⟩
  rw [hG] at HX HB ⊢
  go_wp2_with fail
  go_loopw [5] (fun i wr => ∃ j : Nat, j ≤ 8 ∧ i = .int .i64 j ∧ wr.heap[G]? = some (.cells (bCells (beFill n j)).toArray 112) ∧ Below G w wr) (fun i _ => 8 - (intOf i).toNat)
  case atStart => exact ⟨0, by omega, rfl, HX.out, HB.out⟩
  case round =>
    obtain ⟨j, hj, rfl, hx, hbr⟩ := hrel
    have HXr := Lib.hid hx
    have HBr := Lib.hid hbr
    have hlen := beFill_length n j hj
    have HLn := Lib.hid hlen
    clear hlen
    by_cases hlt : j < 8
    · have hc : wr.cell? ⟨G, j, none⟩ = some (.int .u8 ((beFill n j).getD j 0).toNat) := by
        have := HLn.out
        simp [World.cell?, hx, bCells, List.getD, this, hlt]
      have hf : wr.frozen? ⟨G, j, none⟩ = false := by simp [World.frozen?, hx]
      clear hx hbr
      have hsh : 0 ≤ 8 * (7 - (j : Int)) := by omega
      go_wp2_with fail
      go_roundw
      case rel => exact ⟨j + 1, by omega, by go_num, be_step hlt (byte_nat n (7 - j)) HXr.out HBr.out⟩
      case measure => simp [intOf]; omega
    · have hcv := conv_block (P := Try.prog) (src := 47) (dst := 9) Try.underlying47 Try.underlying5 Try.underlying9 8 HLn.out.symm hx
      obtain rfl : j = 8 := by omega
      clear hx hbr
      go_wp2_with fail
      go_ret
      exact ⟨ret_str (by simp [be8, beFill, beN_take]), by rw [hG]; exact HBr.out⟩
set_option maxHeartbeats 800000 in
theorem snumber (s : ByteArray) (w : World) (hs : 8 ≤ s.size) (hm : s.size ≤ 64) : Calls Try.prog 64 #[.string s] w fun e w' => e = .returned (.int .u64 (num8 s)) ∧ w = w' := by
  have hl : s.data.toList.length = s.size := rfl
  have HL := Lib.hid hl
  clear hl
  go_enter Try.func64, Try.ntmps64
  go_wp2_with fail
  go_loop [3, 5] (fun v i => ∃ j : Nat, j ≤ 8 ∧ i = .int .i64 j ∧ v = .int .u64 (valN (s.data.toList.take j))) (fun _ i => 8 - (intOf i).toNat)
  case atStart => exact ⟨0, by omega, rfl, rfl⟩
  case round =>
    obtain ⟨j, hj, rfl, rfl⟩ := hrel
    by_cases hlt : j < 8
    · have hjs : j < s.size := by omega
      have e1 := Lib.hid (s_valN_take s.data.toList j (by rw [HL.out]; exact hjs))
      have e2 := s_valN_small s.data.toList j (by omega)
      obtain ⟨c, hc⟩ : ∃ c, s[j] = c := ⟨_, rfl⟩
      have hc2 : s.data.toList.getD j 0 = c := by rw [← hc]; simp [List.getD, hjs]; rfl
      obtain ⟨X, hX⟩ : ∃ X, valN (s.data.toList.take j) = X := ⟨_, rfl⟩
      rw [hX] at e2 e1
      rw [hX]
      rw [hc2] at e1
      have hor := s_or_byte2 X c e2
      have HO := Lib.hid hor
      clear hX hc2 hor
      go_wp2_with fail
      go_round
      case rel => exact ⟨j + 1, by omega, by go_num, by rw [e1.out]; exact congrArg (Value.int .u64) HO.out⟩
      case measure => simp [intOf]; omega
    · obtain rfl : j = 8 := by omega
      go_wp2_with fail
      go_ret
      exact ⟨rfl, rfl⟩
end Go.Proofs.Ytcoliadgnbhkaaa
