/-
  The contract of the document's own List.
-/
import Derived.Test.YtkdmnhmlkcejfaaDoorNumD
namespace Go.Proofs.YtkdmnhmlkcejfaaDoor
open Go.RowKit
set_option linter.unusedVariables false

set_option maxHeartbeats 800000 in
set_option maxRecDepth 100000 in
theorem reflist_any (v : Value) (zs : List Int) (w : World) (hv : Ints w v zs) (hn : zs.length ≤ 1000) (hz : ∀ x ∈ zs, x ≤ 9223372036854775807) :
    Calls Tryd.prog 35 #[v] w fun e w' => e = .returned (.string ⟨(listN zs).toArray⟩) ∧ Below w.heap.size w w' := by
  obtain ⟨a, cap, rfl, hm, hc⟩ := hv
  have hu : U64 (zs.length : Int) := ⟨by omega, by omega⟩
  have HU := Lib.hid hu
  clear hu
  go_enter Tryd.func35, Tryd.ntmps35
  go_wp2_with (go_at_call 59; refine (refput_any _ _ HU.out).mono ?_; rintro e w1 ⟨rfl, hbw⟩)
  go_loopw [3, 4] (fun v i wr => ∃ k : Nat, k ≤ zs.length ∧ i = .int .i64 k ∧ v = .string ⟨(putN zs.length ++ (zs.take k).flatMap fun x => putN x.toNat).toArray⟩ ∧ Below w.heap.size w wr) (fun _ i _ => zs.length - (intOf i).toNat)
  case atStart => exact ⟨0, Nat.zero_le _, rfl, by simp, hbw⟩
  case round =>
    obtain ⟨k, hk, rfl, rfl, hbel⟩ := hrel
    by_cases hlt : k < zs.length
    · obtain ⟨b, off, rfl, hb0, hcell⟩ : ∃ b off, a = some ⟨b, off, none⟩ ∧ b < w.heap.size ∧ ∀ j, j < zs.length → w.cell? ⟨b, off + j, none⟩ = some (.int .i64 (zs.getD j 0)) := by
        rcases hc with rfl | h
        · simp at hlt
        · exact h
      have hck : wr.cell? ⟨b, off + k, none⟩ = some (.int .i64 (zs.getD k 0)) := by rw [hbel.cell hb0]; exact hcell k hlt
      have hgt : zs.getD k 0 ≤ 9223372036854775807 := by rw [List.getD, List.getElem?_eq_getElem hlt]; exact hz _ (List.getElem_mem hlt)
      obtain ⟨x, hx⟩ : ∃ x, zs.getD k 0 = x := ⟨_, rfl⟩
      have hfin : putN zs.length ++ ((zs.take k).flatMap fun x => putN x.toNat) ++ putN x.toNat = putN zs.length ++ (zs.take (k + 1)).flatMap fun x => putN x.toNat := by
        rw [← listN_snoc zs.length zs k hlt, hx]
      have hlen : (putN zs.length ++ ((zs.take k).flatMap fun x => putN x.toNat)).length ≤ 10000 := by
        have h1 := putN_length zs.length (by omega)
        have h2 := flat_len (zs.take k) (fun y hy => hz y (List.mem_of_mem_take hy))
        have h3 : (zs.take k).length ≤ k := List.length_take_le _ _
        rw [List.length_append]; omega
      rw [hx] at hck hgt
      have hlen2 := putN_length x.toNat (by omega)
      have HF := Lib.hid hfin
      have H0 := Lib.hid (show putN (0 : Int).toNat = putN 0 from rfl)
      have hp0 : (putN 0).length ≤ 9 := putN_length 0 (by omega)
      generalize putN zs.length ++ ((zs.take k).flatMap fun x => putN x.toNat) = cur at *
      clear hx hcell hc hz hfin
      by_cases hneg : x < 0
      · have hx0 : x.toNat = 0 := by omega
        have HX := Lib.hid hx0
        have hsum : cur.length + (putN 0).length ≤ 9223372036854775807 := by omega
        clear hx0
        go_wp2_with (go_at_call 59; refine (refput_any 0 _ ⟨by omega, by omega⟩).mono ?_; rintro e w2 ⟨rfl, hb2⟩)
        go_roundw
        case rel =>
          refine ⟨k + 1, by omega, by go_num, ?_, hbel.trans (hb2.mono hbel.size)⟩
          rw [← HF.out, HX.out]
          exact congrArg Value.string (str_append _ _)
        case measure => simp [intOf]; omega
      · have hu2 : U64 x := ⟨by omega, by omega⟩
        have HU2 := Lib.hid hu2
        have hx0 : 0 ≤ x := by omega
        have hsum : cur.length + (putN x.toNat).length ≤ 9223372036854775807 := by omega
        clear hu2
        go_wp2_with (go_at_call 59; refine (refput_any x _ HU2.out).mono ?_; rintro e w2 ⟨rfl, hb2⟩)
        go_roundw
        case rel =>
          refine ⟨k + 1, by omega, by go_num, ?_, hbel.trans (hb2.mono hbel.size)⟩
          rw [← HF.out]
          exact congrArg Value.string (str_append _ _)
        case measure => simp [intOf]; omega
    · go_wp2
      go_ret
      exact ⟨ret_str (by rw [listN, List.take_of_length_le (by omega)]), hbel⟩
end Go.Proofs.YtkdmnhmlkcejfaaDoor
