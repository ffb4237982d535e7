/-
  Several texts, laid together.
-/
import Derived.Test.YtlhjgpedmnjbpaaMg8
import Derived.Test.YtlhjgpedmnjbpaaMg7
/-
  The waking call of layer 1's statements: a number there and back.
-/

namespace Go.Proofs.Ytlhjgpedmnjbpaa
open Go.RowKit
set_option linter.unusedVariables false

theorem put300 : putN 300 = [2, 1, 44] := by decide +kernel
theorem put2 : putN 2 = [1, 2] := by decide +kernel
theorem aw_v : (⟨[2, 1, 44, 1, 2, 97, 98], 0⟩ : RS).numV 300 = 300 := by decide +kernel
theorem aw_s : (⟨[2, 1, 44, 1, 2, 97, 98], 0⟩ : RS).numS 300 = ⟨[1, 2, 97, 98], 0⟩ := by rfl
theorem aw_t : (⟨[1, 2, 97, 98], 0⟩ : RS).textB 2 = [97, 98] := by decide +kernel
theorem aw_u : (⟨[1, 2, 97, 98], 0⟩ : RS).textS 2 = ⟨[], 0⟩ := by rfl
theorem aw_e : (⟨[], 0⟩ : RS).endS = ⟨[], 0⟩ := by rfl
end Go.Proofs.Ytlhjgpedmnjbpaa
/-
  The contract of the document's own List.
-/

namespace Go.Proofs.Ytlhjgpedmnjbpaa
open Go.RowKit
set_option linter.unusedVariables false

set_option maxHeartbeats 800000 in
set_option maxRecDepth 100000 in
theorem reflist_any (v : Value) (zs : List Int) (w : World) (hv : Ints w v zs) (hn : zs.length ≤ 1000) (hz : ∀ x ∈ zs, x ≤ 9223372036854775807) :
    Calls Try.prog 87 #[v] w fun e w' => e = .returned (.string ⟨(listN zs).toArray⟩) ∧ Below w.heap.size w w' := by
  obtain ⟨a, cap, rfl, hm, hc⟩ := hv
  have hu : U64 (zs.length : Int) := ⟨by omega, by omega⟩
  have HU := Lib.hid hu
  clear hu
  go_enter Try.func87, Try.ntmps87
  go_wp2_with (go_at_call 78; refine (refput_any _ _ HU.out).mono ?_; rintro e w1 ⟨rfl, hbw⟩)
  go_loopw [3, 4] (fun v i wr => ∃ k : Nat, k ≤ zs.length ∧ i = .int .i64 k ∧ v = .string ⟨(putN zs.length ++ (zs.take k).flatMap fun x => putN x.toNat).toArray⟩ ∧ Below w.heap.size w wr) (fun _ i _ => zs.length - (intOf i).toNat)
  case atStart => exact ⟨0, Nat.zero_le _, rfl, by simp, hbw⟩
  case round =>
    obtain ⟨k, hk, rfl, rfl, hbel⟩ := hrel
    by_cases hlt : k < zs.length
    · obtain ⟨b, off, rfl, hb0, hcell⟩ : ∃ b off, a = some ⟨b, off, none⟩ ∧ b < w.heap.size ∧ ∀ j, j < zs.length → w.cell? ⟨b, off + j, none⟩ = some (.int .i64 (zs.getD j 0)) := by
        rcases hc with rfl | h
        · simp at hlt
        · exact h
      have hck : wr.cell? ⟨b, off + k, none⟩ = some (.int .i64 (zs.getD k 0)) := by rw [hbel.cell hb0]; exact hcell k hlt
      have hgt : zs.getD k 0 ≤ 9223372036854775807 := by rw [List.getD, List.getElem?_eq_getElem hlt]; exact hz _ (List.getElem_mem hlt)
      obtain ⟨x, hx⟩ : ∃ x, zs.getD k 0 = x := ⟨_, rfl⟩
      have hfin : putN zs.length ++ ((zs.take k).flatMap fun x => putN x.toNat) ++ putN x.toNat = putN zs.length ++ (zs.take (k + 1)).flatMap fun x => putN x.toNat := by
        rw [← listN_snoc zs.length zs k hlt, hx]
      have hlen : (putN zs.length ++ ((zs.take k).flatMap fun x => putN x.toNat)).length ≤ 10000 := by
        have h1 := putN_length zs.length (by omega)
        have h2 := flat_len (zs.take k) (fun y hy => hz y (List.mem_of_mem_take hy))
        have h3 : (zs.take k).length ≤ k := List.length_take_le _ _
        rw [List.length_append]; omega
      rw [hx] at hck hgt
      have hlen2 := putN_length x.toNat (by omega)
      have HF := Lib.hid hfin
      have H0 := Lib.hid (show putN (0 : Int).toNat = putN 0 from rfl)
      have hp0 : (putN 0).length ≤ 9 := putN_length 0 (by omega)
      generalize putN zs.length ++ ((zs.take k).flatMap fun x => putN x.toNat) = cur at *
      clear hx hcell hc hz hfin
      by_cases hneg : x < 0
      · have hx0 : x.toNat = 0 := by omega
        have HX := Lib.hid hx0
        have hsum : cur.length + (putN 0).length ≤ 9223372036854775807 := by omega
        clear hx0
        go_wp2_with (go_at_call 78; refine (refput_any 0 _ ⟨by omega, by omega⟩).mono ?_; rintro e w2 ⟨rfl, hb2⟩)
        go_roundw
        case rel =>
          refine ⟨k + 1, by omega, by go_num, ?_, hbel.trans (hb2.mono hbel.size)⟩
          rw [← HF.out, HX.out]
          exact congrArg Value.string (str_append _ _)
        case measure => simp [intOf]; omega
      · have hu2 : U64 x := ⟨by omega, by omega⟩
        have HU2 := Lib.hid hu2
        have hx0 : 0 ≤ x := by omega
        have hsum : cur.length + (putN x.toNat).length ≤ 9223372036854775807 := by omega
        clear hu2
        go_wp2_with (go_at_call 78; refine (refput_any x _ HU2.out).mono ?_; rintro e w2 ⟨rfl, hb2⟩)
        go_roundw
        case rel =>
          refine ⟨k + 1, by omega, by go_num, ?_, hbel.trans (hb2.mono hbel.size)⟩
          rw [← HF.out]
          exact congrArg Value.string (str_append _ _)
        case measure => simp [intOf]; omega
    · go_wp2
      go_ret
      exact ⟨ret_str (by rw [listN, List.take_of_length_le (by omega)]), hbel⟩
end Go.Proofs.Ytlhjgpedmnjbpaa
/-
  NumPuts' walk.
-/


namespace Go.Proofs.Ytlhjgpedmnjbpaa
open Go.RowKit
set_option linter.unusedVariables false

theorem bytes_list (s : ByteArray) : s = ⟨s.data.toList.toArray⟩ := by cases s; simp
theorem wf_u64 {n : Int} (h : (Lit.int .u64 n).wf = true) : U64 n := by
  simp [Lit.wf, IntKind.min, IntKind.max, IntKind.signed, IntKind.bits] at h
  exact ⟨by omega, by omega⟩
theorem wf_i64 {n : Int} (h : (Lit.int .i64 n).wf = true) : -9223372036854775808 ≤ n ∧ n ≤ 9223372036854775807 := by
  simp [Lit.wf, IntKind.min, IntKind.max, IntKind.signed, IntKind.bits] at h
  omega
/-- a row that came in, cut to its first k elements -/
theorem RowOf.ints {w : World} {a : Option Addr} {len cap : Nat} {zs : List Int} (h : RowOf .i64 w a len cap zs) (k : Nat) (hk : k ≤ len) :
    ∃ l : List Int, l = zs.take k ∧ l.length = k ∧ (∀ x ∈ l, -9223372036854775808 ≤ x ∧ x ≤ 9223372036854775807) ∧ (k = 0 ∨ ∃ b off, a = some ⟨b, off, none⟩ ∧ b < w.heap.size ∧ ∀ j, j < k → w.cell? ⟨b, off + j, none⟩ = some (.int .i64 (l.getD j 0))) := by
  refine ⟨zs.take k, rfl, ?_, ?_, ?_⟩
  · rcases h with ⟨rfl, rfl, rfl, rfl⟩ | ⟨x, rfl, hl, hm, hz, _⟩
    · obtain rfl : k = 0 := by omega
      rfl
    · rw [List.length_take]; omega
  · intro x hx
    rcases h with ⟨rfl, rfl, rfl, rfl⟩ | ⟨y, rfl, hl, hm, hz, hc, hw⟩
    · simp at hx
    · exact wf_i64 (hw x (List.mem_of_mem_take hx))
  · by_cases h0 : k = 0
    · exact .inl h0
    · right
      rcases h with ⟨rfl, rfl, rfl, rfl⟩ | ⟨⟨b, off, spot⟩, rfl, hl, hm, hz, hc, hw⟩
      · omega
      · have c0 := hc 0 (by omega)
        have hs : spot = none := by
          have := World.cell?_spot c0
          simpa [Addr.add] using this
        subst hs
        have hb : b < w.heap.size := by
          have := World.block_lt_of_cell? w _ c0
          simpa [Addr.add] using this
        refine ⟨b, off, rfl, hb, fun j hj => ?_⟩
        have hcj := hc j (by omega)
        have ha : (⟨b, off, none⟩ : Addr).add j = ⟨b, off + j, none⟩ := by unfold Addr.add; split <;> simp_all
        rw [ha] at hcj
        rw [hcj]
        simp [List.getD, hj]
theorem Ints.below {w w' : World} {v : Value} {zs : List Int} (h : Ints w v zs) (hb : Below w.heap.size w w') : Ints w' v zs := by
  obtain ⟨a, cap, rfl, hm, hc⟩ := h
  refine ⟨a, cap, rfl, hm, hc.imp id ?_⟩
  rintro ⟨b, off, rfl, hlt, hcell⟩
  exact ⟨b, off, rfl, Nat.lt_of_lt_of_le hlt hb.size, fun j hj => by rw [hb.cell hlt]; exact hcell j hj⟩
end Go.Proofs.Ytlhjgpedmnjbpaa
