/-
  Several texts, laid together.
-/
import Derived.Test.YtjaaddjbmimjoaaMh1
import Derived.WalkSpells
import Derived.WalkLawsBesides
import Derived.BigQuiet
import Derived.Deep.QuietTactic
import Derived.Test.YtjaaddjbmimjoaaShelf
import Derived.Deep.RegionWith
import Derived.Deep.RegionHeld3
/-
  The contracts of a source's small calls: Err, Wrong, Left, Take. Condition: the source is a block of its own (two cells), or nil.
-/





namespace Go.Proofs.Ytjaaddjbmimjoaa
open Go.RowKit
set_option linter.unusedVariables false

/-- bytes that are left, and the first error -/
structure RS where
  s : List UInt8
  e : Int
def RS.fail (r : RS) (n : Int) : RS := if r.e = 0 ∧ n ≠ 0 then ⟨[], n⟩ else r
def RS.takeS (r : RS) (n : Int) : RS := if r.e ≠ 0 then r else if n < 0 ∨ (r.s.length : Int) < n then r.fail 2 else ⟨r.s.drop n.toNat, r.e⟩
def RS.takeB (r : RS) (n : Int) : List UInt8 := if r.e ≠ 0 then [] else if n < 0 ∨ (r.s.length : Int) < n then [] else r.s.take n.toNat

/-- the source of block b -/
def Src (w : World) (b : Nat) (r : RS) : Prop :=
  w.heap[b]? = some (.cells #[.string ⟨r.s.toArray⟩, .int .i64 r.e] 109 (0, 0))
theorem Src.c0 {w : World} {b : Nat} {r : RS} (h : Src w b r) : w.cell? ⟨b, 0, none⟩ = some (.string ⟨r.s.toArray⟩) := by unfold Src at h; simp [World.cell?, h]
theorem Src.c1 {w : World} {b : Nat} {r : RS} (h : Src w b r) : w.cell? ⟨b, 1, none⟩ = some (.int .i64 r.e) := by unfold Src at h; simp [World.cell?, h]
theorem Src.f0 {w : World} {b : Nat} {r : RS} (h : Src w b r) : w.frozen? ⟨b, 0, none⟩ = false := by unfold Src at h; simp [World.frozen?, h]
theorem Src.f1 {w : World} {b : Nat} {r : RS} (h : Src w b r) : w.frozen? ⟨b, 1, none⟩ = false := by unfold Src at h; simp [World.frozen?, h]
theorem Src.set0 {w : World} {b : Nat} {r : RS} (h : Src w b r) (l : List UInt8) : Src (w.setCell ⟨b, 0, none⟩ (.string ⟨l.toArray⟩)) b ⟨l, r.e⟩ := by unfold Src at *; simpa using heap_set_self h 0 (.string ⟨l.toArray⟩)
theorem Src.set1 {w : World} {b : Nat} {r : RS} (h : Src w b r) (n : Int) : Src (w.setCell ⟨b, 1, none⟩ (.int .i64 n)) b ⟨r.s, n⟩ := by unfold Src at *; simpa using heap_set_self h 1 (.int .i64 n)
theorem Src.lt {w : World} {b : Nat} {r : RS} (h : Src w b r) : b < w.heap.size := lt_heap h
theorem Src.below {w w' : World} {b : Nat} {r : RS} (h : Src w b r) (hb : Below w.heap.size w w') : Src w' b r := below_at hb h.lt h

theorem err_some (b : Nat) (er : Int) (w : World) (h : w.cell? ⟨b, 1, none⟩ = some (.int .i64 er)) :
    Calls Try.prog 13 #[.pointer (some ⟨b, 0, none⟩)] w fun e w' => e = .returned (.int .i64 er) ∧ w = w' := by
  go_enter Try.func13, Try.ntmps13
  go_wp2
  go_ret
  exact ⟨rfl, rfl⟩
theorem wrong_zero (b : Nat) (w : World) : Calls Try.prog 55 #[.pointer (some ⟨b, 0, none⟩), .int .i64 0] w fun e w' => e = .returned (.tuple #[]) ∧ w = w' := by
  go_enter Try.func55, Try.ntmps55
  go_wp2
  refine bodyPost_ret (results_none rfl _ _ _) rfl ?_
  exact ⟨rfl, rfl⟩
theorem wrong_again (b : Nat) (n m : Int) (w : World) (hn : (n == 0) = false) (hm : (m == 0) = false) (hm' : (m != 0) = true) (h1 : w.cell? ⟨b, 1, none⟩ = some (.int .i64 m)) :
    Calls Try.prog 55 #[.pointer (some ⟨b, 0, none⟩), .int .i64 n] w fun e w' => e = .returned (.tuple #[]) ∧ w = w' := by
  go_enter Try.func55, Try.ntmps55
  go_wp2
  refine bodyPost_ret (results_none rfl _ _ _) rfl ?_
  exact ⟨rfl, rfl⟩
theorem wrong_first (b : Nat) (s : List UInt8) (n : Int) (w : World) (hn : (n == 0) = false) (h0 : w.cell? ⟨b, 0, none⟩ = some (.string ⟨s.toArray⟩)) (h1 : w.cell? ⟨b, 1, none⟩ = some (.int .i64 0))
    (f0 : w.frozen? ⟨b, 0, none⟩ = false) (f1 : w.frozen? ⟨b, 1, none⟩ = false) :
    Calls Try.prog 55 #[.pointer (some ⟨b, 0, none⟩), .int .i64 n] w fun e w' => e = .returned (.tuple #[]) ∧ w' = (w.setCell ⟨b, 1, none⟩ (.int .i64 n)).setCell ⟨b, 0, none⟩ (.string ⟨#[]⟩) := by
  go_enter Try.func55, Try.ntmps55
  go_wp2
  go_end0
  exact ⟨rfl, rfl⟩

/-- Wrong(n): the first error stays. -/
theorem wrong_src (b : Nat) (r : RS) (n : Int) (w : World) (h : Src w b r) :
    Calls Try.prog 55 #[.pointer (some ⟨b, 0, none⟩), .int .i64 n] w fun e w' => e = .returned (.tuple #[]) ∧ Src w' b (r.fail n) ∧ Only b w w' := by
  by_cases hn : n = 0
  · subst hn
    refine (wrong_zero b w).mono ?_
    rintro e w' ⟨rfl, rfl⟩
    exact ⟨rfl, by simpa [RS.fail] using h, Only.refl _ _⟩
  · by_cases hr : r.e = 0
    · refine (wrong_first b r.s n w (by simpa using hn) h.c0 (by rw [h.c1, hr]) h.f0 h.f1).mono ?_
      rintro e w' ⟨rfl, rfl⟩
      refine ⟨rfl, ?_, ((Only.refl _ _).set _ _).set _ _⟩
      have := (h.set1 n).set0 []
      simpa [RS.fail, hr, hn] using this
    · refine (wrong_again b n r.e w (by simpa using hn) (by simpa using hr) (by simpa using hr) h.c1).mono ?_
      rintro e w' ⟨rfl, rfl⟩
      exact ⟨rfl, by simpa [RS.fail, hr] using h, Only.refl _ _⟩

theorem take_err (b : Nat) (m n : Int) (w : World) (hm : (m != 0) = true) (h1 : w.cell? ⟨b, 1, none⟩ = some (.int .i64 m)) :
    Calls Try.prog 104 #[.pointer (some ⟨b, 0, none⟩), .int .i64 n] w fun e w' => e = .returned (.string ⟨#[]⟩) ∧ w = w' := by
  go_enter Try.func104, Try.ntmps104
  go_wp2_with (go_at_call 13; refine (err_some _ _ _ h1).mono ?_; rintro e w' ⟨rfl, rfl⟩)
  go_ret
  exact ⟨rfl, rfl⟩
theorem take_ok (b : Nat) (s : List UInt8) (n : Int) (w : World) (hn : 0 ≤ n) (hn2 : n ≤ s.length) (h0 : w.cell? ⟨b, 0, none⟩ = some (.string ⟨s.toArray⟩)) (h1 : w.cell? ⟨b, 1, none⟩ = some (.int .i64 0))
    (f0 : w.frozen? ⟨b, 0, none⟩ = false) :
    Calls Try.prog 104 #[.pointer (some ⟨b, 0, none⟩), .int .i64 n] w fun e w' => e = .returned (.string ⟨(s.take n.toNat).toArray⟩) ∧ w' = w.setCell ⟨b, 0, none⟩ (.string ⟨(s.drop n.toNat).toArray⟩) := by
  go_enter Try.func104, Try.ntmps104
  go_wp2_with (go_at_call 13; refine (err_some _ _ _ h1).mono ?_; rintro e w' ⟨rfl, rfl⟩)
  go_ret
  exact ⟨ret_str (str_take _ _), by rw [str_drop]⟩
theorem take_short (b : Nat) (r : RS) (n : Int) (w : World) (hr : r.e = 0) (hn : n < 0 ∨ (r.s.length : Int) < n) (h : Src w b r) :
    Calls Try.prog 104 #[.pointer (some ⟨b, 0, none⟩), .int .i64 n] w fun e w' => e = .returned (.string ⟨#[]⟩) ∧ Src w' b (r.fail 2) ∧ Only b w w' := by
  have h0 := h.c0
  have h1 : w.cell? ⟨b, 1, none⟩ = some (.int .i64 0) := by rw [h.c1, hr]
  have H := Lib.hid h
  have HR := Lib.hid hr
  clear h hr
  rcases hn with hn | hn
  all_goals
    by_cases hz : n < 0
    all_goals
      go_enter Try.func104, Try.ntmps104
      go_wp2_with (first | (go_at_call 13; refine (err_some _ _ _ h1).mono ?_; rintro e w' ⟨rfl, rfl⟩) | (go_at_call 55; refine (wrong_src b r 2 _ H.out).mono ?_; rintro e w' ⟨rfl, hs, ho⟩))
      go_ret
      exact ⟨rfl, hs, ho⟩
theorem take_src (b : Nat) (r : RS) (n : Int) (w : World) (h : Src w b r) :
    Calls Try.prog 104 #[.pointer (some ⟨b, 0, none⟩), .int .i64 n] w fun e w' => e = .returned (.string ⟨(r.takeB n).toArray⟩) ∧ Src w' b (r.takeS n) ∧ Only b w w' := by
  by_cases hr : r.e = 0
  · by_cases hn : n < 0 ∨ (r.s.length : Int) < n
    · refine (take_short b r n w hr hn h).mono ?_
      rintro e w' ⟨rfl, hs, ho⟩
      exact ⟨by simp [RS.takeB, hr, hn], by simpa [RS.takeS, hr, hn] using hs, ho⟩
    · refine (take_ok b r.s n w (by omega) (by omega) h.c0 (by rw [h.c1, hr]) h.f0).mono ?_
      rintro e w' ⟨rfl, rfl⟩
      exact ⟨by simp [RS.takeB, hr, hn], by simpa [RS.takeS, hr, hn] using h.set0 _, (Only.refl _ _).set _ _⟩
  · refine (take_err b r.e n w (by simpa using hr) h.c1).mono ?_
    rintro e w' ⟨rfl, rfl⟩
    exact ⟨by simp [RS.takeB, hr], by simpa [RS.takeS, hr] using h, Only.refl _ _⟩
end Go.Proofs.Ytjaaddjbmimjoaa
/-
  The contracts of num's Put, Word, Text, Bool: the bytes that they make.
-/


namespace Go.Proofs.Ytjaaddjbmimjoaa
open Go.RowKit
set_option linter.unusedVariables false

def U64 (n : Int) : Prop := 0 ≤ n ∧ n ≤ 18446744073709551615
end Go.Proofs.Ytjaaddjbmimjoaa
/-
  The contracts of num's Word, Text, Bool, From, and of the document's own Put, High, Word, Text, Bool: the bytes that they make.
-/



namespace Go.Proofs.Ytjaaddjbmimjoaa
open Go.RowKit
set_option linter.unusedVariables false

theorem bcell {W w1 : World} (hb : Below W.heap.size W w1) : (∀ b o, b < W.heap.size → w1.cell? ⟨b, o, none⟩ = W.cell? ⟨b, o, none⟩) ∧ (∀ b o, b < W.heap.size → w1.frozen? ⟨b, o, none⟩ = W.frozen? ⟨b, o, none⟩) :=
  ⟨fun b o h => hb.cell (p := ⟨b, o, none⟩) h, fun b o h => hb.frozen (p := ⟨b, o, none⟩) h⟩

theorem from_any (s : ByteArray) (w : World) :
    Calls Try.prog 10 #[.string s] w fun e w' => e = .returned (.pointer (some ⟨w.heap.size, 0, none⟩)) ∧ w' = w.alloc (.cells #[.string s, .int .i64 0] 109) := by
  go_enter Try.func10, Try.ntmps10
  go_wp2
  go_ret
  exact ⟨rfl, rfl⟩
theorem wrap_u64_in (x : Int) (h : U64 x) : IntKind.u64.wrap x = x := by
  unfold U64 at h
  simp [IntKind.wrap, IntKind.signed, IntKind.bits]
  omega
theorem wrap_u8_in (x : Int) (h0 : 0 ≤ x) (h1 : x ≤ 255) : IntKind.u8.wrap x = x := by
  simp [IntKind.wrap, IntKind.signed, IntKind.bits]
  omega
set_option maxHeartbeats 400000 in
theorem high_ind (N : Nat) : ∀ (x : Int) (w : World), U64 x → x.toNat < N →
    Calls Try.prog 81 #[.int .u64 x] w fun e w' => e = .returned (.string ⟨(hiN x.toNat).toArray⟩) ∧ Below w.heap.size w w' := by
  induction N with
  | zero => intro x w _ h; omega
  | succ N ih =>
    intro x w hx hN
    by_cases h0 : x = 0
    · subst h0
      clear ih hx hN
      go_enter Try.func81, Try.ntmps81
      go_wp2
      go_ret
      exact ⟨ret_str (by simp [hiN_zero]), Below.refl _ _⟩
    · have hb0 : (x == 0) = false := by simp; omega
      have hx0 : 0 ≤ x := hx.1
      have ih2 : ∀ (w : World), Calls Try.prog 81 #[.int .u64 (x / 256)] w fun e w' => e = .returned (.string ⟨(hiN (x / 256).toNat).toArray⟩) ∧ Below w.heap.size w w' :=
        fun w => ih (x / 256) w (by unfold U64 at *; omega) (by omega)
      have H := Lib.hid ih2
      have hcv : ∀ w : World, (convert 130 9 (.slice (some ⟨w.heap.size, 0, none⟩) 1 1)).run Try.prog (w.alloc (.cells #[.int .u8 (x % 256)] 5)) =
          .ok (.string ⟨#[UInt8.ofNat x.toNat]⟩) (w.alloc (.cells #[.int .u8 (x % 256)] 5)) :=
        lit_string Try.underlying130 Try.underlying5 Try.underlying9 [UInt8.ofNat x.toNat] _ _ _ rfl (by
          obtain ⟨M, rfl⟩ := Int.eq_ofNat_of_zero_le hx0
          simp [bCells])
      have hfin : hiN x.toNat = hiN (x / 256).toNat ++ [UInt8.ofNat x.toNat] := by
        rw [hiN_step _ (by omega) (by unfold U64 at hx; omega)]
        congr 2
        omega
      have HF := Lib.hid hfin
      have hlen : (hiN (x / 256).toNat).length + 1 ≤ 9223372036854775807 := by
        rw [hiN_length]
        have := needN_le (x / 256).toNat (by unfold U64 at hx; omega)
        omega
      have hq : IntKind.u64.wrap (x.tdiv 256) = x / 256 := by
        rw [Int.tdiv_eq_ediv_of_nonneg hx0]
        exact wrap_u64_in _ (by unfold U64 at *; omega)
      have hr : x.tmod 256 = x % 256 := Int.tmod_eq_emod_of_nonneg hx0
      have hr8 : IntKind.u8.wrap (x % 256) = x % 256 := wrap_u8_in _ (by omega) (by omega)
      clear h0 ih ih2 hN hfin hx
      go_enter Try.func81, Try.ntmps81
      go_wp2
      have hcvd : ∀ w : World, (convert 130 9 (.slice (some ⟨w.heap.size, 0, none⟩) 1 1)).run Try.prog (w.alloc (.cells #[.int .u8 (x % 256)] 5)).drew =
          .ok (.string ⟨#[UInt8.ofNat x.toNat]⟩) (w.alloc (.cells #[.int .u8 (x % 256)] 5)).drew := fun w => hcv w.drew
      have hcv3 : ∀ (W w1 : World), (∀ b o, b < W.heap.size → w1.cell? ⟨b, o, none⟩ = W.cell? ⟨b, o, none⟩) → w.heap.size < W.heap.size → W.cell? ⟨w.heap.size, 0, none⟩ = some (.int .u8 (x % 256)) →
          (convert 130 9 (.slice (some ⟨w.heap.size, 0, none⟩) 1 1)).run Try.prog w1 = .ok (.string ⟨#[UInt8.ofNat x.toNat]⟩) w1 := fun W w1 h1 h2 h3 =>
        one_string Try.underlying130 Try.underlying5 Try.underlying9 (UInt8.ofNat x.toNat) (x % 256) (by simp; omega) w1 w.heap.size (by rw [h1 _ _ h2]; exact h3)
      have H3 := Lib.hid hcv3
      clear hcv3
      go_region_with (go_at_call 81; refine (H.out _).mono ?_; rintro e w' ⟨rfl, hb⟩; obtain ⟨hc, hf⟩ := bcell hb; have hcv2 := H3.out _ w' hc)
      all_goals go_wp2
      all_goals go_ret
      all_goals refine ⟨ret_str (by rw [HF.out]; exact str_append _ [_]), ?_⟩
      · exact (((Below.refl _ _).drew.trans (hb.mono (by simp))).alloc (by have := hb.size; simpa using this) _)
      all_goals exact ((Below.refl _ _).alloc (Nat.le_refl _) _).drew.trans (hb.mono (by simp))
theorem high_any (x : Int) (w : World) (hx : U64 x) :
    Calls Try.prog 81 #[.int .u64 x] w fun e w' => e = .returned (.string ⟨(hiN x.toNat).toArray⟩) ∧ Below w.heap.size w w' :=
  high_ind (x.toNat + 1) x w hx (by omega)
end Go.Proofs.Ytjaaddjbmimjoaa
