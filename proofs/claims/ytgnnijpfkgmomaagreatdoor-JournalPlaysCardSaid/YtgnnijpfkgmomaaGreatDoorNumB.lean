/-
  The contracts of num's Put, Word, Text, Bool: the bytes that they make.
-/
import Derived.Test.YtgnnijpfkgmomaaGreatDoorNumA
import Derived.Test.YtgnnijpfkgmomaaGreatDoorShelf
namespace Go.Proofs.YtgnnijpfkgmomaaGreatDoor
open Go.RowKit
set_option linter.unusedVariables false

def U64 (n : Int) : Prop := 0 ≤ n ∧ n ≤ 18446744073709551615
theorem info_u8 : (Tryz.prog.info? 5).map (fun i => (i.zero, i.size, i.bytes)) = some (some (.int .u8 0), 1, 1) := by kernel_rfl

set_option maxHeartbeats 800000 in
set_option maxRecDepth 100000 in
theorem put_any (n : Int) (w : World) (hn : U64 n) :
    Calls Tryz.prog 73 #[.int .u64 n] w fun e w' => e = .returned (.string ⟨(putN n.toNat).toArray⟩) ∧ Below w.heap.size w w' := by
  obtain ⟨i0, hi, hz0, hz1, hz2⟩ := info_parts info_u8
  have h0 : 0 ≤ n := hn.1
  have hmk : ∀ w, (Instr.makeSlice 60 (.int .i64 1) (.int .i64 9)).run Tryz.prog w = .ok (.slice (some ⟨w.heap.size, 0, none⟩) 1 9) (w.alloc (.cells #[.int .u8 0, .int .u8 0, .int .u8 0, .int .u8 0, .int .u8 0, .int .u8 0, .int .u8 0, .int .u8 0, .int .u8 0] 5)) := fun _ => by kernel_rfl
  have hb : Lib.bitLen n.toNat ≤ 64 := Lib.bitLen_le _ 64 (by omega) (by have := hn.2; omega)
  go_enter Tryz.func73, Tryz.ntmps73
  go_wp2_with (first | (go_at_call 93; refine (Tryz.bits_Len64 n _ hn.1 hn.2).mono ?_; rintro e w' ⟨rfl, rfl⟩))
  have he : (((Lib.bitLen n.toNat : Nat) : Int) + 7) / 8 = ((needN n.toNat : Nat) : Int) := by unfold needN; omega
  simp only [he]
  have HE := Lib.hid he
  clear he
  have hm : needN n.toNat ≤ 8 := needN_le _ (by have := hn.2; omega)
  obtain ⟨m, hmm⟩ : ∃ m, m = needN n.toNat := ⟨_, rfl⟩
  rw [← hmm] at hm
  simp only [← hmm]
  have HM := Lib.hid hmm
  clear hmm hb hmk
  go_loopw [4, 5] (fun v i wr => ∃ k : Nat, k ≤ m ∧ i = .int .i64 ((k : Int) - 1) ∧ wr.ownsRow w'.heap.size 5 1 v (1 + (m - k)) (bCells (UInt8.ofNat m :: (beN m n.toNat).take (m - k))) ∧ Below w'.heap.size w' wr) (fun _ i _ => (intOf i + 1).toNat)
  case atStart =>
    refine ⟨m, Nat.le_refl _, rfl, ⟨by simp [bCells], Or.inr ⟨_, 9, _, by simp, Nat.le_refl _, heap_alloc_self _ _, by omega, by unfold maxLen; omega, rfl, ?_⟩⟩, (Below.refl _ _).alloc (Nat.le_refl _) _⟩
    simp [bCells]
    omega
  case round =>
    obtain ⟨k, hk, rfl, hown, hbel⟩ := hrel
    by_cases hk0 : k = 0
    · subst hk0
      have hcv := owned_string (P := Tryz.prog) (src := 60) (dst := 9) Tryz.underlying60 Tryz.underlying5 Tryz.underlying9 hown
      go_wp2
      go_ret
      refine ⟨ret_str ?_, hbel⟩
      have hm := HM.out
      subst hm
      simp [putN, hiN, List.take_of_length_le, beN_length]
    · go_wp2_with (at_builtin; refine wpList_append_own _ rfl (.tmp 21) (.tmp 27) 60 rfl w'.heap.size 5 i0 (.int .u8 0) 1 1 Tryz.underlying60 hi hz0 hz1 hz2 rfl (by decide) _ _ _ rfl (hown.alloc _) ⟨wr.heap.size, 0, none⟩ 1 1 [.int .u8 (n / 2 ^ (8 * (k - 1)) % 256)] rfl rfl ?c1 ?c2 ?c3 ?c4 ?c5 ?_)
      case c1 => exact (cell_one_new _ _ _)
      case c2 => intro u hu; simp at hu; subst hu; rfl
      case c3 => unfold maxLen; omega
      case c4 => omega
      case c5 => have := hbel.size; simp; omega
      intro v' w2 hown2 hgr _
      go_wp2
      go_roundw
      case rel =>
        refine ⟨k - 1, by omega, ?_, ?_, ?_⟩
        · congr 1; omega
        · have hx := hown2
          rw [byte_at n h0, show [Value.int IntKind.u8 ((UInt8.ofNat (n.toNat / 256 ^ (k - 1))).toNat : Int)] = bCells [UInt8.ofNat (n.toNat / 256 ^ (k - 1))] from rfl, bCells_append, List.cons_append, beN_more m n.toNat k (by omega) hk] at hx
          rw [show 1 + (m - (k - 1)) = 1 + (m - k) + 1 by omega]
          exact hx
        · exact (hbel.alloc hbel.size _).grown hgr (by have := hbel.size; simp; omega) (fun q hq => (hown.lt q hq).1)
      case measure => simp [intOf]; omega
end Go.Proofs.YtgnnijpfkgmomaaGreatDoor
