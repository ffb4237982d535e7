/-
  The contracts of a source's Word and List.
-/
import Derived.Test.YtbmjkieikaapfaaDoorNumG
namespace Go.Proofs.YtbmjkieikaapfaaDoor
open Go.RowKit
set_option linter.unusedVariables false

def word4 (a b c d : UInt8) : Int := ((valN [a, b, c, d] : Nat) : Int)
theorem word_or (x y z u : UInt8) : bits .or .u32 (bits .or .u32 (bits .or .u32 ((x.toNat : Int) % 4294967296 * 16777216 % 4294967296) ((y.toNat : Int) % 4294967296 * 65536 % 4294967296)) ((z.toNat : Int) % 4294967296 * 256 % 4294967296)) ((u.toNat : Int) % 4294967296) = ((valN [x, y, z, u] : Nat) : Int) := by
  have hx := x.toNat_lt
  have hy := y.toNat_lt
  have hz := z.toNat_lt
  have hu := u.toNat_lt
  rw [show ((x.toNat : Int) % 4294967296 * 16777216 % 4294967296) = ((2 ^ 24 * x.toNat : Nat) : Int) by omega, show ((y.toNat : Int) % 4294967296 * 65536 % 4294967296) = ((65536 * y.toNat : Nat) : Int) by omega,
    show ((z.toNat : Int) % 4294967296 * 256 % 4294967296) = ((256 * z.toNat : Nat) : Int) by omega, show ((u.toNat : Int) % 4294967296) = ((u.toNat : Nat) : Int) by omega]
  rw [u32_or_nat _ _ (by omega) (by omega), ← Nat.two_pow_add_eq_or_of_lt (i := 24) (b := 65536 * y.toNat) (by omega) x.toNat]
  rw [show 2 ^ 24 * x.toNat + 65536 * y.toNat = 2 ^ 16 * (256 * x.toNat + y.toNat) by omega, u32_or_nat _ _ (by omega) (by omega), ← Nat.two_pow_add_eq_or_of_lt (i := 16) (b := 256 * z.toNat) (by omega) _]
  rw [show 2 ^ 16 * (256 * x.toNat + y.toNat) + 256 * z.toNat = 2 ^ 8 * (256 * (256 * x.toNat + y.toNat) + z.toNat) by omega, u32_or_nat _ _ (by omega) (by omega), ← Nat.two_pow_add_eq_or_of_lt (i := 8) (b := u.toNat) (by omega) _]
  simp [valN]
  omega
set_option maxHeartbeats 800000 in
theorem sword_src (b : Nat) (r : RS) (w : World) (h : Src w b r) :
    Calls Tryd.prog 28 #[.pointer (some ⟨b, 0, none⟩)] w fun e w' => e = .returned (.int .u32 r.wordV) ∧ Src w' b (r.takeS 4) ∧ Only b w w' := by
  have H := Lib.hid h
  clear h
  go_enter Tryd.func28, Tryd.ntmps28
  go_wp2_with fail
  refine (take_src b r 4 _ H.out).mono ?_
  rintro e w1 ⟨rfl, hs, ho⟩
  obtain ⟨hd, hhd⟩ : ∃ p, r.takeB 4 = p := ⟨_, rfl⟩
  have hlen := takeB_len r 4
  have hall : hd = [] ∨ hd.length = 4 := by
    subst hhd
    unfold RS.takeB
    split
    · exact .inl rfl
    · split
      · exact .inl rfl
      · right; rw [List.length_take]; omega
  rw [hhd] at hlen ⊢
  have HB := Lib.hid hhd
  have HS := Lib.hid hs
  clear hs hhd
  by_cases hne : hd = []
  · have he : hd.isEmpty = true := by simp [hne]
    have HN := Lib.hid hne
    clear hne hlen hall
    go_wp2
    go_ret
    exact ⟨ret_int (by rw [RS.wordV, HB.out, HN.out]; rfl), HS.out, ho⟩
  · have hl4 : hd.length = 4 := hall.resolve_left hne
    match hd, hl4 with
    | [x, y, z, u], _ =>
    clear hall hlen
    have hV : r.wordV = valN [x, y, z, u] := by rw [RS.wordV, HB.out]
    have HV := Lib.hid hV
    have i0 : ∀ h, (⟨[x, y, z, u].toArray⟩ : ByteArray)[0]'h = x := fun _ => rfl
    have i1 : ∀ h, (⟨[x, y, z, u].toArray⟩ : ByteArray)[1]'h = y := fun _ => rfl
    have i2 : ∀ h, (⟨[x, y, z, u].toArray⟩ : ByteArray)[2]'h = z := fun _ => rfl
    have i3 : ∀ h, (⟨[x, y, z, u].toArray⟩ : ByteArray)[3]'h = u := fun _ => rfl
    clear hV hne
    go_wp2
    go_quiet (fail)
    go_wp2
    go_ret
    refine ⟨ret_int (by rw [HV.out]; exact word_or x y z u), ?_, ho.drewN _⟩
    have hh := HS.out
    unfold Src at hh ⊢
    rw [drewN_heap]
    exact hh

/-- so many Ints, up to the first error -/
def intsR (q : RS) (limit : Nat) : Nat → RS × List Int
  | 0 => (q, [])
  | k + 1 => if (intsR q limit k).1.e ≠ 0 then intsR q limit k else ((intsR q limit k).1.numS limit, (intsR q limit k).2 ++ [((intsR q limit k).1.numV limit : Int)])
def RS.listS (r : RS) (many limit : Int) : RS := (intsR (r.numS many.toNat) limit.toNat (r.numV many.toNat)).1
def RS.listV (r : RS) (many limit : Int) : List Int := if (r.listS many limit).e ≠ 0 then [] else (intsR (r.numS many.toNat) limit.toNat (r.numV many.toNat)).2
theorem intsR_len (q : RS) (limit k : Nat) : (intsR q limit k).2.length ≤ k := by
  induction k with
  | zero => simp [intsR]
  | succ k ih =>
    rw [intsR]
    split
    · omega
    · simp; omega
theorem intsR_stop (q : RS) (limit k n : Nat) (h : (intsR q limit k).1.e ≠ 0) (hk : k ≤ n) : intsR q limit n = intsR q limit k := by
  induction n with
  | zero => obtain rfl : k = 0 := by omega
            rfl
  | succ n ih =>
    by_cases e : k = n + 1
    · subst e; rfl
    · rw [intsR, ih (by omega), if_pos h]
theorem info_int : (Tryd.prog.info? 3).map (fun i => (i.zero, i.size, i.bytes)) = some (some (.int .i64 0), 1, 8) := by kernel_rfl
def iCells (l : List Int) : List Value := l.map (Value.int .i64)
def ListPost (b : Nat) (r : RS) (many limit : Int) (w : World) (e : Ending) (w' : World) : Prop :=
  ∃ v, e = .returned v ∧ w'.ownsRow w.heap.size 3 1 v (r.listV many limit).length (iCells (r.listV many limit)) ∧ Src w' b (r.listS many limit) ∧ Only b w w'
end Go.Proofs.YtbmjkieikaapfaaDoor
