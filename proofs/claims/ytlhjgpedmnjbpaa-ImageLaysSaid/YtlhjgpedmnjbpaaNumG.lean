/-
  The contracts of a source's Int, Text, Word, Bool, End, also of no source.
-/
import Derived.Test.YtlhjgpedmnjbpaaNumF
namespace Go.Proofs.Ytlhjgpedmnjbpaa
open Go.RowKit
set_option linter.unusedVariables false

theorem int_nil (n : Int) (w : World) (h : n ≤ 9223372036854775807) : Calls Try.prog 80 #[.pointer none, .int .i64 n] w fun e w' => e = .returned (.int .i64 0) ∧ w = w' := by
  have hwr : IntKind.u64.wrap (max n 0) = max n 0 := wrap_u64_in _ ⟨by omega, by omega⟩
  go_enter Try.func80, Try.ntmps80
  go_wp2_with (go_at_call 117; refine (num_nil _ _).mono ?_; rintro e w' ⟨rfl, rfl⟩)
  go_ret
  exact ⟨rfl, rfl⟩
theorem int_src (b : Nat) (r : RS) (n : Int) (w : World) (hn : n ≤ 9223372036854775807) (h : Src w b r) :
    Calls Try.prog 80 #[.pointer (some ⟨b, 0, none⟩), .int .i64 n] w fun e w' => e = .returned (.int .i64 (r.numV n.toNat)) ∧ Src w' b (r.numS n.toNat) ∧ Only b w w' := by
  have hu : U64 (max n 0) := ⟨by omega, by omega⟩
  have hwr : IntKind.u64.wrap (max n 0) = max n 0 := wrap_u64_in _ hu
  have hle := numV_le r n.toNat
  have HM := Lib.hid (show (max n 0).toNat = n.toNat by omega)
  have H := Lib.hid h
  have HU := Lib.hid hu
  clear h hu
  go_enter Try.func80, Try.ntmps80
  go_wp2_with (go_at_call 117; refine (num_src b r _ _ HU.out H.out).mono ?_; rw [HM.out]; rintro e w' ⟨rfl, hs, ho⟩)
  all_goals go_ret
  all_goals exact ⟨rfl, hs, ho⟩

/-- Text(limit) -/
def RS.textS (r : RS) (limit : Int) : RS := (r.numS (min limit 65536).toNat).takeS (r.numV (min limit 65536).toNat)
def RS.textB (r : RS) (limit : Int) : List UInt8 := (r.numS (min limit 65536).toNat).takeB (r.numV (min limit 65536).toNat)
theorem end_nil (w : World) : Calls Try.prog 93 #[.pointer none] w fun e w' => e = .returned (.int .i64 2) ∧ w = w' := by
  go_enter Try.func93, Try.ntmps93
  go_wp2_with (first | (go_at_call 31; refine (left_nil _).mono ?_; rintro e w' ⟨rfl, rfl⟩) | (go_at_call 18; refine (err_nil _).mono ?_; rintro e w' ⟨rfl, rfl⟩))
  go_ret
  exact ⟨rfl, rfl⟩
def RS.endS (r : RS) : RS := if r.s = [] then r else r.fail 3
theorem end_src (b : Nat) (r : RS) (w : World) (h : Src w b r) :
    Calls Try.prog 93 #[.pointer (some ⟨b, 0, none⟩)] w fun e w' => e = .returned (.int .i64 r.endS.e) ∧ Src w' b r.endS ∧ Only b w w' := by
  have H := Lib.hid h
  have h0 := h.c0
  have h1 := h.c1
  clear h
  by_cases hl : r.s = []
  · have hz : r.s.length = 0 := by simp [hl]
    have HL := Lib.hid hl
    have hq : ¬ (0 < r.s.length) := by omega
    clear hl hz
    go_enter Try.func93, Try.ntmps93
    go_wp2_with (first | (go_at_call 31; refine (left_some _ _ _ h0).mono ?_; rintro e w' ⟨rfl, rfl⟩) | (go_at_call 18; refine (err_some _ _ _ h1).mono ?_; rintro e w' ⟨rfl, rfl⟩))
    go_ret
    exact ⟨ret_int (by rw [RS.endS, if_pos HL.out]), by rw [RS.endS, if_pos HL.out]; exact H.out, Only.refl _ _⟩
  · have hq : 0 < r.s.length := List.length_pos_iff.2 hl
    have HL := Lib.hid hl
    clear hl
    go_enter Try.func93, Try.ntmps93
    go_wp2_with (go_at_call 31; refine (left_some _ _ _ h0).mono ?_; rintro e w' ⟨rfl, rfl⟩)
    refine (wrong_src b r 3 _ H.out).mono ?_
    rintro e w1 ⟨rfl, hs, ho⟩
    have h2 := hs.c1
    have HS := Lib.hid hs
    clear hs
    go_wp2_with (go_at_call 18; refine (err_some _ _ _ h2).mono ?_; rintro e w' ⟨rfl, rfl⟩)
    go_ret
    exact ⟨ret_int (by rw [RS.endS, if_neg HL.out]), by rw [RS.endS, if_neg HL.out]; exact HS.out, ho⟩
/-- Word() -/
def RS.wordV (r : RS) : Nat := valN (r.takeB 4)
end Go.Proofs.Ytlhjgpedmnjbpaa
