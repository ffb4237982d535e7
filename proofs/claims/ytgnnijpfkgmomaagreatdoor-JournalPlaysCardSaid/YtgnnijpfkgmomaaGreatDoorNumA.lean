/-
  The contracts of a source's small calls: Err, Wrong, Left, Take. Condition: the source is a block of its own (two cells), or nil.
-/
import Derived.Test.YtgnnijpfkgmomaaGreatDoorBase
import Derived.WalkSpells
import Derived.WalkLawsBesides
import Derived.BigQuiet
import Derived.Deep.QuietTactic
namespace Go.Proofs.YtgnnijpfkgmomaaGreatDoor
open Go.RowKit
set_option linter.unusedVariables false

/-- bytes that are left, and the first error -/
structure RS where
  s : List UInt8
  e : Int
def RS.fail (r : RS) (n : Int) : RS := if r.e = 0 ∧ n ≠ 0 then ⟨[], n⟩ else r
def RS.takeS (r : RS) (n : Int) : RS := if r.e ≠ 0 then r else if n < 0 ∨ (r.s.length : Int) < n then r.fail 2 else ⟨r.s.drop n.toNat, r.e⟩
def RS.takeB (r : RS) (n : Int) : List UInt8 := if r.e ≠ 0 then [] else if n < 0 ∨ (r.s.length : Int) < n then [] else r.s.take n.toNat

/-- the source of block b -/
def Src (w : World) (b : Nat) (r : RS) : Prop :=
  w.heap[b]? = some (.cells #[.string ⟨r.s.toArray⟩, .int .i64 r.e] 89 (0, 0))
theorem Src.c0 {w : World} {b : Nat} {r : RS} (h : Src w b r) : w.cell? ⟨b, 0, none⟩ = some (.string ⟨r.s.toArray⟩) := by unfold Src at h; simp [World.cell?, h]
theorem Src.c1 {w : World} {b : Nat} {r : RS} (h : Src w b r) : w.cell? ⟨b, 1, none⟩ = some (.int .i64 r.e) := by unfold Src at h; simp [World.cell?, h]
theorem Src.f0 {w : World} {b : Nat} {r : RS} (h : Src w b r) : w.frozen? ⟨b, 0, none⟩ = false := by unfold Src at h; simp [World.frozen?, h]
theorem Src.f1 {w : World} {b : Nat} {r : RS} (h : Src w b r) : w.frozen? ⟨b, 1, none⟩ = false := by unfold Src at h; simp [World.frozen?, h]
theorem Src.set0 {w : World} {b : Nat} {r : RS} (h : Src w b r) (l : List UInt8) : Src (w.setCell ⟨b, 0, none⟩ (.string ⟨l.toArray⟩)) b ⟨l, r.e⟩ := by unfold Src at *; simpa using heap_set_self h 0 (.string ⟨l.toArray⟩)
theorem Src.set1 {w : World} {b : Nat} {r : RS} (h : Src w b r) (n : Int) : Src (w.setCell ⟨b, 1, none⟩ (.int .i64 n)) b ⟨r.s, n⟩ := by unfold Src at *; simpa using heap_set_self h 1 (.int .i64 n)
theorem Src.lt {w : World} {b : Nat} {r : RS} (h : Src w b r) : b < w.heap.size := lt_heap h
theorem Src.below {w w' : World} {b : Nat} {r : RS} (h : Src w b r) (hb : Below w.heap.size w w') : Src w' b r := below_at hb h.lt h

theorem err_nil (w : World) : Calls Tryz.prog 32 #[.pointer none] w fun e w' => e = .returned (.int .i64 2) ∧ w = w' := by
  go_enter Tryz.func32, Tryz.ntmps32
  go_wp2
  go_ret
  exact ⟨rfl, rfl⟩
theorem err_some (b : Nat) (er : Int) (w : World) (h : w.cell? ⟨b, 1, none⟩ = some (.int .i64 er)) :
    Calls Tryz.prog 32 #[.pointer (some ⟨b, 0, none⟩)] w fun e w' => e = .returned (.int .i64 er) ∧ w = w' := by
  go_enter Tryz.func32, Tryz.ntmps32
  go_wp2
  go_ret
  exact ⟨rfl, rfl⟩
theorem left_nil (w : World) : Calls Tryz.prog 31 #[.pointer none] w fun e w' => e = .returned (.int .i64 0) ∧ w = w' := by
  go_enter Tryz.func31, Tryz.ntmps31
  go_wp2
  go_ret
  exact ⟨rfl, rfl⟩
theorem left_some (b : Nat) (s : List UInt8) (w : World) (h : w.cell? ⟨b, 0, none⟩ = some (.string ⟨s.toArray⟩)) :
    Calls Tryz.prog 31 #[.pointer (some ⟨b, 0, none⟩)] w fun e w' => e = .returned (.int .i64 s.length) ∧ w = w' := by
  go_enter Tryz.func31, Tryz.ntmps31
  go_wp2
  go_ret
  exact ⟨rfl, rfl⟩
theorem wrong_nil (n : Int) (w : World) : Calls Tryz.prog 52 #[.pointer none, .int .i64 n] w fun e w' => e = .returned (.tuple #[]) ∧ w = w' := by
  go_enter Tryz.func52, Tryz.ntmps52
  go_wp2
  refine bodyPost_ret (results_none rfl _ _ _) rfl ?_
  exact ⟨rfl, rfl⟩
theorem wrong_zero (b : Nat) (w : World) : Calls Tryz.prog 52 #[.pointer (some ⟨b, 0, none⟩), .int .i64 0] w fun e w' => e = .returned (.tuple #[]) ∧ w = w' := by
  go_enter Tryz.func52, Tryz.ntmps52
  go_wp2
  refine bodyPost_ret (results_none rfl _ _ _) rfl ?_
  exact ⟨rfl, rfl⟩
theorem wrong_again (b : Nat) (n m : Int) (w : World) (hn : (n == 0) = false) (hm : (m == 0) = false) (hm' : (m != 0) = true) (h1 : w.cell? ⟨b, 1, none⟩ = some (.int .i64 m)) :
    Calls Tryz.prog 52 #[.pointer (some ⟨b, 0, none⟩), .int .i64 n] w fun e w' => e = .returned (.tuple #[]) ∧ w = w' := by
  go_enter Tryz.func52, Tryz.ntmps52
  go_wp2
  refine bodyPost_ret (results_none rfl _ _ _) rfl ?_
  exact ⟨rfl, rfl⟩
theorem wrong_first (b : Nat) (s : List UInt8) (n : Int) (w : World) (hn : (n == 0) = false) (h0 : w.cell? ⟨b, 0, none⟩ = some (.string ⟨s.toArray⟩)) (h1 : w.cell? ⟨b, 1, none⟩ = some (.int .i64 0))
    (f0 : w.frozen? ⟨b, 0, none⟩ = false) (f1 : w.frozen? ⟨b, 1, none⟩ = false) :
    Calls Tryz.prog 52 #[.pointer (some ⟨b, 0, none⟩), .int .i64 n] w fun e w' => e = .returned (.tuple #[]) ∧ w' = (w.setCell ⟨b, 1, none⟩ (.int .i64 n)).setCell ⟨b, 0, none⟩ (.string ⟨#[]⟩) := by
  go_enter Tryz.func52, Tryz.ntmps52
  go_wp2
  go_end0
  exact ⟨rfl, rfl⟩

/-- Wrong(n): the first error stays. -/
theorem wrong_src (b : Nat) (r : RS) (n : Int) (w : World) (h : Src w b r) :
    Calls Tryz.prog 52 #[.pointer (some ⟨b, 0, none⟩), .int .i64 n] w fun e w' => e = .returned (.tuple #[]) ∧ Src w' b (r.fail n) ∧ Only b w w' := by
  by_cases hn : n = 0
  · subst hn
    refine (wrong_zero b w).mono ?_
    rintro e w' ⟨rfl, rfl⟩
    exact ⟨rfl, by simpa [RS.fail] using h, Only.refl _ _⟩
  · by_cases hr : r.e = 0
    · refine (wrong_first b r.s n w (by simpa using hn) h.c0 (by rw [h.c1, hr]) h.f0 h.f1).mono ?_
      rintro e w' ⟨rfl, rfl⟩
      refine ⟨rfl, ?_, ((Only.refl _ _).set _ _).set _ _⟩
      have := (h.set1 n).set0 []
      simpa [RS.fail, hr, hn] using this
    · refine (wrong_again b n r.e w (by simpa using hn) (by simpa using hr) (by simpa using hr) h.c1).mono ?_
      rintro e w' ⟨rfl, rfl⟩
      exact ⟨rfl, by simpa [RS.fail, hr] using h, Only.refl _ _⟩

theorem take_nil (n : Int) (w : World) : Calls Tryz.prog 30 #[.pointer none, .int .i64 n] w fun e w' => e = .returned (.string ⟨#[]⟩) ∧ w = w' := by
  go_enter Tryz.func30, Tryz.ntmps30
  go_wp2_with (go_at_call 32; refine (err_nil _).mono ?_; rintro e w' ⟨rfl, rfl⟩)
  go_ret
  exact ⟨rfl, rfl⟩
theorem take_err (b : Nat) (m n : Int) (w : World) (hm : (m != 0) = true) (h1 : w.cell? ⟨b, 1, none⟩ = some (.int .i64 m)) :
    Calls Tryz.prog 30 #[.pointer (some ⟨b, 0, none⟩), .int .i64 n] w fun e w' => e = .returned (.string ⟨#[]⟩) ∧ w = w' := by
  go_enter Tryz.func30, Tryz.ntmps30
  go_wp2_with (go_at_call 32; refine (err_some _ _ _ h1).mono ?_; rintro e w' ⟨rfl, rfl⟩)
  go_ret
  exact ⟨rfl, rfl⟩
theorem take_ok (b : Nat) (s : List UInt8) (n : Int) (w : World) (hn : 0 ≤ n) (hn2 : n ≤ s.length) (h0 : w.cell? ⟨b, 0, none⟩ = some (.string ⟨s.toArray⟩)) (h1 : w.cell? ⟨b, 1, none⟩ = some (.int .i64 0))
    (f0 : w.frozen? ⟨b, 0, none⟩ = false) :
    Calls Tryz.prog 30 #[.pointer (some ⟨b, 0, none⟩), .int .i64 n] w fun e w' => e = .returned (.string ⟨(s.take n.toNat).toArray⟩) ∧ w' = w.setCell ⟨b, 0, none⟩ (.string ⟨(s.drop n.toNat).toArray⟩) := by
  go_enter Tryz.func30, Tryz.ntmps30
  go_wp2_with (go_at_call 32; refine (err_some _ _ _ h1).mono ?_; rintro e w' ⟨rfl, rfl⟩)
  go_ret
  exact ⟨ret_str (str_take _ _), by rw [str_drop]⟩
theorem take_short (b : Nat) (r : RS) (n : Int) (w : World) (hr : r.e = 0) (hn : n < 0 ∨ (r.s.length : Int) < n) (h : Src w b r) :
    Calls Tryz.prog 30 #[.pointer (some ⟨b, 0, none⟩), .int .i64 n] w fun e w' => e = .returned (.string ⟨#[]⟩) ∧ Src w' b (r.fail 2) ∧ Only b w w' := by
  have h0 := h.c0
  have h1 : w.cell? ⟨b, 1, none⟩ = some (.int .i64 0) := by rw [h.c1, hr]
  have H := Lib.hid h
  have HR := Lib.hid hr
  clear h hr
  rcases hn with hn | hn
  all_goals
    by_cases hz : n < 0
    all_goals
      go_enter Tryz.func30, Tryz.ntmps30
      go_wp2_with (first | (go_at_call 32; refine (err_some _ _ _ h1).mono ?_; rintro e w' ⟨rfl, rfl⟩) | (go_at_call 52; refine (wrong_src b r 2 _ H.out).mono ?_; rintro e w' ⟨rfl, hs, ho⟩))
      go_ret
      exact ⟨rfl, hs, ho⟩
theorem take_src (b : Nat) (r : RS) (n : Int) (w : World) (h : Src w b r) :
    Calls Tryz.prog 30 #[.pointer (some ⟨b, 0, none⟩), .int .i64 n] w fun e w' => e = .returned (.string ⟨(r.takeB n).toArray⟩) ∧ Src w' b (r.takeS n) ∧ Only b w w' := by
  by_cases hr : r.e = 0
  · by_cases hn : n < 0 ∨ (r.s.length : Int) < n
    · refine (take_short b r n w hr hn h).mono ?_
      rintro e w' ⟨rfl, hs, ho⟩
      exact ⟨by simp [RS.takeB, hr, hn], by simpa [RS.takeS, hr, hn] using hs, ho⟩
    · refine (take_ok b r.s n w (by omega) (by omega) h.c0 (by rw [h.c1, hr]) h.f0).mono ?_
      rintro e w' ⟨rfl, rfl⟩
      exact ⟨by simp [RS.takeB, hr, hn], by simpa [RS.takeS, hr, hn] using h.set0 _, (Only.refl _ _).set _ _⟩
  · refine (take_err b r.e n w (by simpa using hr) h.c1).mono ?_
    rintro e w' ⟨rfl, rfl⟩
    exact ⟨by simp [RS.takeB, hr], by simpa [RS.takeS, hr] using h, Only.refl _ _⟩
end Go.Proofs.YtgnnijpfkgmomaaGreatDoor
