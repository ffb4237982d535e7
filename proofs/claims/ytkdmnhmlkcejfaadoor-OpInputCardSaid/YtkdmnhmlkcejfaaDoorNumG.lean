/-
  The contracts of a source's Int, Text, Word, Bool, End, also of no source.
-/
import Derived.Test.YtkdmnhmlkcejfaaDoorNumF
namespace Go.Proofs.YtkdmnhmlkcejfaaDoor
open Go.RowKit
set_option linter.unusedVariables false

theorem int_nil (n : Int) (w : World) (h : n ≤ 9223372036854775807) : Calls Tryd.prog 92 #[.pointer none, .int .i64 n] w fun e w' => e = .returned (.int .i64 0) ∧ w = w' := by
  have hwr : IntKind.u64.wrap (max n 0) = max n 0 := wrap_u64_in _ ⟨by omega, by omega⟩
  go_enter Tryd.func92, Tryd.ntmps92
  go_wp2_with (go_at_call 104; refine (num_nil _ _).mono ?_; rintro e w' ⟨rfl, rfl⟩)
  go_ret
  exact ⟨rfl, rfl⟩
theorem int_src (b : Nat) (r : RS) (n : Int) (w : World) (hn : n ≤ 9223372036854775807) (h : Src w b r) :
    Calls Tryd.prog 92 #[.pointer (some ⟨b, 0, none⟩), .int .i64 n] w fun e w' => e = .returned (.int .i64 (r.numV n.toNat)) ∧ Src w' b (r.numS n.toNat) ∧ Only b w w' := by
  have hu : U64 (max n 0) := ⟨by omega, by omega⟩
  have hwr : IntKind.u64.wrap (max n 0) = max n 0 := wrap_u64_in _ hu
  have hle := numV_le r n.toNat
  have HM := Lib.hid (show (max n 0).toNat = n.toNat by omega)
  have H := Lib.hid h
  have HU := Lib.hid hu
  clear h hu
  go_enter Tryd.func92, Tryd.ntmps92
  go_wp2_with (go_at_call 104; refine (num_src b r _ _ HU.out H.out).mono ?_; rw [HM.out]; rintro e w' ⟨rfl, hs, ho⟩)
  all_goals go_ret
  all_goals exact ⟨rfl, hs, ho⟩

/-- Text(limit) -/
def RS.textS (r : RS) (limit : Int) : RS := (r.numS (min limit 65536).toNat).takeS (r.numV (min limit 65536).toNat)
def RS.textB (r : RS) (limit : Int) : List UInt8 := (r.numS (min limit 65536).toNat).takeB (r.numV (min limit 65536).toNat)
theorem text_nil (n : Int) (w : World) : Calls Tryd.prog 75 #[.pointer none, .int .i64 n] w fun e w' => e = .returned (.string ⟨#[]⟩) ∧ w = w' := by
  go_enter Tryd.func75, Tryd.ntmps75
  go_wp2_with (first | (go_at_call 92; refine (int_nil _ _ (by omega)).mono ?_; rintro e w' ⟨rfl, rfl⟩) | (go_at_call 93; refine (take_nil _ _).mono ?_; rintro e w' ⟨rfl, rfl⟩))
  all_goals go_ret
  all_goals exact ⟨rfl, rfl⟩
theorem text_src (b : Nat) (r : RS) (n : Int) (w : World) (h : Src w b r) :
    Calls Tryd.prog 75 #[.pointer (some ⟨b, 0, none⟩), .int .i64 n] w fun e w' => e = .returned (.string ⟨(r.textB n).toArray⟩) ∧ Src w' b (r.textS n) ∧ Only b w w' := by
  unfold RS.textB RS.textS
  have hle := numV_le r (min n 65536).toNat
  have H := Lib.hid h
  clear h
  go_enter Tryd.func75, Tryd.ntmps75
  go_wp2_with fail
  refine (int_src b r _ _ (by omega) H.out).mono ?_
  rintro e w1 ⟨rfl, hs, ho⟩
  have HS := Lib.hid hs
  clear hs
  go_wp2_with fail
  refine (take_src b _ _ _ HS.out).mono ?_
  rintro e w2 ⟨rfl, hs2, ho2⟩
  have HS2 := Lib.hid hs2
  clear hs2
  go_wp2
  go_ret
  exact ⟨rfl, HS2.out, ho.trans ho2⟩

theorem bool_nil (w : World) : Calls Tryd.prog 74 #[.pointer none] w fun e w' => e = .returned (.bool false) ∧ w = w' := by
  go_enter Tryd.func74, Tryd.ntmps74
  go_wp2_with (go_at_call 93; refine (take_nil _ _).mono ?_; rintro e w' ⟨rfl, rfl⟩)
  go_ret
  exact ⟨rfl, rfl⟩
theorem end_nil (w : World) : Calls Tryd.prog 76 #[.pointer none] w fun e w' => e = .returned (.int .i64 2) ∧ w = w' := by
  go_enter Tryd.func76, Tryd.ntmps76
  go_wp2_with (first | (go_at_call 69; refine (left_nil _).mono ?_; rintro e w' ⟨rfl, rfl⟩) | (go_at_call 71; refine (err_nil _).mono ?_; rintro e w' ⟨rfl, rfl⟩))
  go_ret
  exact ⟨rfl, rfl⟩
def RS.endS (r : RS) : RS := if r.s = [] then r else r.fail 3
theorem end_src (b : Nat) (r : RS) (w : World) (h : Src w b r) :
    Calls Tryd.prog 76 #[.pointer (some ⟨b, 0, none⟩)] w fun e w' => e = .returned (.int .i64 r.endS.e) ∧ Src w' b r.endS ∧ Only b w w' := by
  have H := Lib.hid h
  have h0 := h.c0
  have h1 := h.c1
  clear h
  by_cases hl : r.s = []
  · have hz : r.s.length = 0 := by simp [hl]
    have HL := Lib.hid hl
    have hq : ¬ (0 < r.s.length) := by omega
    clear hl hz
    go_enter Tryd.func76, Tryd.ntmps76
    go_wp2_with (first | (go_at_call 69; refine (left_some _ _ _ h0).mono ?_; rintro e w' ⟨rfl, rfl⟩) | (go_at_call 71; refine (err_some _ _ _ h1).mono ?_; rintro e w' ⟨rfl, rfl⟩))
    go_ret
    exact ⟨ret_int (by rw [RS.endS, if_pos HL.out]), by rw [RS.endS, if_pos HL.out]; exact H.out, Only.refl _ _⟩
  · have hq : 0 < r.s.length := List.length_pos_iff.2 hl
    have HL := Lib.hid hl
    clear hl
    go_enter Tryd.func76, Tryd.ntmps76
    go_wp2_with (go_at_call 69; refine (left_some _ _ _ h0).mono ?_; rintro e w' ⟨rfl, rfl⟩)
    refine (wrong_src b r 3 _ H.out).mono ?_
    rintro e w1 ⟨rfl, hs, ho⟩
    have h2 := hs.c1
    have HS := Lib.hid hs
    clear hs
    go_wp2_with (go_at_call 71; refine (err_some _ _ _ h2).mono ?_; rintro e w' ⟨rfl, rfl⟩)
    go_ret
    exact ⟨ret_int (by rw [RS.endS, if_neg HL.out]), by rw [RS.endS, if_neg HL.out]; exact HS.out, ho⟩
theorem sword_nil (w : World) : Calls Tryd.prog 91 #[.pointer none] w fun e w' => e = .returned (.int .u32 0) ∧ w = w' := by
  go_enter Tryd.func91, Tryd.ntmps91
  go_wp2_with (go_at_call 93; refine (take_nil _ _).mono ?_; rintro e w' ⟨rfl, rfl⟩)
  go_ret
  exact ⟨rfl, rfl⟩
/-- Word() -/
def RS.wordV (r : RS) : Nat := valN (r.takeB 4)
end Go.Proofs.YtkdmnhmlkcejfaaDoor
