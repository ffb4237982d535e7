/-
  need: what becomes of each block (Parts).
-/
import Derived.Test.YtkdmnhmlkcejfaaDoorNeed
import Derived.Test.YtkdmnhmlkcejfaaDoorShelf
namespace Go.Proofs.YtkdmnhmlkcejfaaDoor
open Go.RowKit
set_option linter.unusedVariables false
set_option linter.unusedSimpArgs false

def zeroL (n : Nat) : ByteArray := ⟨(List.replicate n 0).toArray⟩
theorem repeat0 (n : Nat) (w : World) (hn : n ≤ 140737488355328) : Calls Tryd.prog 81 #[.string ⟨#[0]⟩, .int .i64 n] w fun e w' => e = .returned (.string (zeroL n)) ∧ Below w.heap.size w w' := by
  have h := Tryd.strings_Repeat ⟨#[0]⟩ n w (by omega) (by show 1 * n ≤ _; omega)
  have e : Lib.repeatL [0] n = List.replicate n 0 := by
    have := Lib.repeatL_replicate 0 1 n
    simpa using this
  refine h.mono fun e' w' hw => ⟨?_, hw.2⟩
  rw [hw.1]
  show Ending.returned (.string ⟨(Lib.repeatL [0] n).toArray⟩) = _
  rw [e]; rfl
def partD (W : Int) (D : ByteArray) (k : Nat) : ByteArray := if W = 1 then D.extract (32 * k) (32 * k + 32) else if W = 2 then zeroL 32 else ⟨#[]⟩
/-- what becomes of the k-th block -/
def partK (W : Int) (q : Nat) (D : ByteArray) (k : Nat) : List Value := [.int .i64 ((q + k : Nat) : Int), .bool (!(W == 0)), .string (partD W D k)]
def partsL (W : Int) (q : Nat) (D : ByteArray) (m : Nat) : List Value := (List.range m).flatMap (partK W q D)
theorem parts_succ (W : Int) (q : Nat) (D : ByteArray) (m : Nat) : partsL W q D (m + 1) = partsL W q D m ++ partK W q D m := by
  simp [partsL, List.range_succ]
theorem parts_len (W : Int) (q : Nat) (D : ByteArray) (m : Nat) : (partsL W q D m).length = m * 3 := by
  induction m with
  | zero => rfl
  | succ m ih => rw [parts_succ, List.length_append, ih]; simp [partK, Nat.succ_mul]
theorem owns_lower {w : World} {base b n size : Nat} {e : TypeId} {v : Value} {xs : List Value} (h : w.ownsRow base e size v n xs) (hb : b ≤ base) : w.ownsRow b e size v n xs :=
  ⟨h.1, h.2.imp id fun ⟨g, cap, cur, e1, h1, h2⟩ => ⟨g, cap, cur, e1, Nat.le_trans hb h1, h2⟩⟩
end Go.Proofs.YtkdmnhmlkcejfaaDoor
