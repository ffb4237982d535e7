/-
  The contracts of num's Word, Text, Bool, From, and of the document's own Put, High, Word, Text, Bool: the bytes that they make.
-/
import Derived.Test.YtkdmnhmlkcejfaaDoorNumB
import Derived.Deep.RegionWith
import Derived.Deep.RegionHeld3
namespace Go.Proofs.YtkdmnhmlkcejfaaDoor
open Go.RowKit
set_option linter.unusedVariables false

theorem bcell {W w1 : World} (hb : Below W.heap.size W w1) : (∀ b o, b < W.heap.size → w1.cell? ⟨b, o, none⟩ = W.cell? ⟨b, o, none⟩) ∧ (∀ b o, b < W.heap.size → w1.frozen? ⟨b, o, none⟩ = W.frozen? ⟨b, o, none⟩) :=
  ⟨fun b o h => hb.cell (p := ⟨b, o, none⟩) h, fun b o h => hb.frozen (p := ⟨b, o, none⟩) h⟩

theorem text_any (s : List UInt8) (w : World) (hs : s.length ≤ 1073741824) :
    Calls Tryd.prog 67 #[.string ⟨s.toArray⟩] w fun e w' => e = .returned (.string ⟨(putN s.length ++ s).toArray⟩) ∧ Below w.heap.size w w' := by
  have hu : U64 (s.length : Int) := ⟨by omega, by omega⟩
  have hl : (putN s.length).length + s.length ≤ 9223372036854775807 := by have := putN_length s.length (by omega); omega
  go_enter Tryd.func67, Tryd.ntmps67
  go_wp2_with (go_at_call 90; refine (put_any _ _ hu).mono ?_; rintro e w' ⟨rfl, hb⟩)
  go_ret
  exact ⟨ret_str (str_append _ _), hb⟩
/-- a truth's letter -/
def boolB (b : Bool) : List UInt8 := if b then [121] else [110]
theorem bool_any (b : Bool) (w : World) :
    Calls Tryd.prog 66 #[.bool b] w fun e w' => e = .returned (.string ⟨(boolB b).toArray⟩) ∧ w = w' := by
  cases b
  all_goals
    go_enter Tryd.func66, Tryd.ntmps66
    go_wp2
    go_ret
    exact ⟨rfl, rfl⟩
theorem from_any (s : ByteArray) (w : World) :
    Calls Tryd.prog 68 #[.string s] w fun e w' => e = .returned (.pointer (some ⟨w.heap.size, 0, none⟩)) ∧ w' = w.alloc (.cells #[.string s, .int .i64 0] 123) := by
  go_enter Tryd.func68, Tryd.ntmps68
  go_wp2
  go_ret
  exact ⟨rfl, rfl⟩
theorem word_any (n : Int) (w : World) (h0 : 0 ≤ n) (h1 : n ≤ 4294967295) :
    Calls Tryd.prog 77 #[.int .u32 n] w fun e w' => e = .returned (.string ⟨(beN 4 n.toNat).toArray⟩) ∧ Below w.heap.size w w' := by
  have hcv : ∀ w : World, (convert 76 9 (.slice (some ⟨w.heap.size, 0, none⟩) 4 4)).run Tryd.prog (w.alloc (.cells #[.int .u8 (n / 16777216), .int .u8 (n / 65536 % 256), .int .u8 (n / 256 % 256), .int .u8 (n % 256)] 5)) =
      .ok (.string ⟨(beN 4 n.toNat).toArray⟩) (w.alloc (.cells #[.int .u8 (n / 16777216), .int .u8 (n / 65536 % 256), .int .u8 (n / 256 % 256), .int .u8 (n % 256)] 5)) :=
    lit_string Tryd.underlying76 Tryd.underlying5 Tryd.underlying9 _ _ _ _ rfl (by
      obtain ⟨N, rfl⟩ := Int.eq_ofNat_of_zero_le h0
      simp [bCells, beN]
      omega)
  go_enter Tryd.func77, Tryd.ntmps77
  go_wp2
  go_ret
  exact ⟨rfl, (Below.refl _ _).alloc (Nat.le_refl _) _⟩
theorem wrap_u64_in (x : Int) (h : U64 x) : IntKind.u64.wrap x = x := by
  unfold U64 at h
  simp [IntKind.wrap, IntKind.signed, IntKind.bits]
  omega
theorem wrap_u8_in (x : Int) (h0 : 0 ≤ x) (h1 : x ≤ 255) : IntKind.u8.wrap x = x := by
  simp [IntKind.wrap, IntKind.signed, IntKind.bits]
  omega
set_option maxHeartbeats 400000 in
theorem high_ind (N : Nat) : ∀ (x : Int) (w : World), U64 x → x.toNat < N →
    Calls Tryd.prog 86 #[.int .u64 x] w fun e w' => e = .returned (.string ⟨(hiN x.toNat).toArray⟩) ∧ Below w.heap.size w w' := by
  induction N with
  | zero => intro x w _ h; omega
  | succ N ih =>
    intro x w hx hN
    by_cases h0 : x = 0
    · subst h0
      clear ih hx hN
      go_enter Tryd.func86, Tryd.ntmps86
      go_wp2
      go_ret
      exact ⟨ret_str (by simp [hiN_zero]), Below.refl _ _⟩
    · have hb0 : (x == 0) = false := by simp; omega
      have hx0 : 0 ≤ x := hx.1
      have ih2 : ∀ (w : World), Calls Tryd.prog 86 #[.int .u64 (x / 256)] w fun e w' => e = .returned (.string ⟨(hiN (x / 256).toNat).toArray⟩) ∧ Below w.heap.size w w' :=
        fun w => ih (x / 256) w (by unfold U64 at *; omega) (by omega)
      have H := Lib.hid ih2
      have hcv : ∀ w : World, (convert 76 9 (.slice (some ⟨w.heap.size, 0, none⟩) 1 1)).run Tryd.prog (w.alloc (.cells #[.int .u8 (x % 256)] 5)) =
          .ok (.string ⟨#[UInt8.ofNat x.toNat]⟩) (w.alloc (.cells #[.int .u8 (x % 256)] 5)) :=
        lit_string Tryd.underlying76 Tryd.underlying5 Tryd.underlying9 [UInt8.ofNat x.toNat] _ _ _ rfl (by
          obtain ⟨M, rfl⟩ := Int.eq_ofNat_of_zero_le hx0
          simp [bCells])
      have hfin : hiN x.toNat = hiN (x / 256).toNat ++ [UInt8.ofNat x.toNat] := by
        rw [hiN_step _ (by omega) (by unfold U64 at hx; omega)]
        congr 2
        omega
      have HF := Lib.hid hfin
      have hlen : (hiN (x / 256).toNat).length + 1 ≤ 9223372036854775807 := by
        rw [hiN_length]
        have := needN_le (x / 256).toNat (by unfold U64 at hx; omega)
        omega
      have hq : IntKind.u64.wrap (x.tdiv 256) = x / 256 := by
        rw [Int.tdiv_eq_ediv_of_nonneg hx0]
        exact wrap_u64_in _ (by unfold U64 at *; omega)
      have hr : x.tmod 256 = x % 256 := Int.tmod_eq_emod_of_nonneg hx0
      have hr8 : IntKind.u8.wrap (x % 256) = x % 256 := wrap_u8_in _ (by omega) (by omega)
      clear h0 ih ih2 hN hfin hx
      go_enter Tryd.func86, Tryd.ntmps86
      go_wp2
      have hcvd : ∀ w : World, (convert 76 9 (.slice (some ⟨w.heap.size, 0, none⟩) 1 1)).run Tryd.prog (w.alloc (.cells #[.int .u8 (x % 256)] 5)).drew =
          .ok (.string ⟨#[UInt8.ofNat x.toNat]⟩) (w.alloc (.cells #[.int .u8 (x % 256)] 5)).drew := fun w => hcv w.drew
      have hcv3 : ∀ (W w1 : World), (∀ b o, b < W.heap.size → w1.cell? ⟨b, o, none⟩ = W.cell? ⟨b, o, none⟩) → w.heap.size < W.heap.size → W.cell? ⟨w.heap.size, 0, none⟩ = some (.int .u8 (x % 256)) →
          (convert 76 9 (.slice (some ⟨w.heap.size, 0, none⟩) 1 1)).run Tryd.prog w1 = .ok (.string ⟨#[UInt8.ofNat x.toNat]⟩) w1 := fun W w1 h1 h2 h3 =>
        one_string Tryd.underlying76 Tryd.underlying5 Tryd.underlying9 (UInt8.ofNat x.toNat) (x % 256) (by simp; omega) w1 w.heap.size (by rw [h1 _ _ h2]; exact h3)
      have H3 := Lib.hid hcv3
      clear hcv3
      go_region_with (go_at_call 86; refine (H.out _).mono ?_; rintro e w' ⟨rfl, hb⟩; obtain ⟨hc, hf⟩ := bcell hb; have hcv2 := H3.out _ w' hc)
      all_goals go_wp2
      all_goals go_ret
      all_goals refine ⟨ret_str (by rw [HF.out]; exact str_append _ [_]), ?_⟩
      · exact (((Below.refl _ _).drew.trans (hb.mono (by simp))).alloc (by have := hb.size; simpa using this) _)
      all_goals exact ((Below.refl _ _).alloc (Nat.le_refl _) _).drew.trans (hb.mono (by simp))
theorem high_any (x : Int) (w : World) (hx : U64 x) :
    Calls Tryd.prog 86 #[.int .u64 x] w fun e w' => e = .returned (.string ⟨(hiN x.toNat).toArray⟩) ∧ Below w.heap.size w w' :=
  high_ind (x.toNat + 1) x w hx (by omega)
end Go.Proofs.YtkdmnhmlkcejfaaDoor
