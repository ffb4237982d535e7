/-
  disk.Sync, Crash.
-/
import Derived.Test.YtlhjgpedmnjbpaaDiskF
import Derived.Test.YtlhjgpedmnjbpaaMask
namespace Go.Proofs.Ytlhjgpedmnjbpaa
open Go.RowKit
set_option linter.unusedVariables false
set_option linter.unusedSimpArgs false

/-- a writing's fate, of a number -/
def fateU (u j : Nat) : Nat := u / 2 ^ (2 * (j % 32)) % 4
theorem fate_and (u j : Nat) : bits .and .i64 (wrap64 (↑u / 2 ^ (2 * (j % 32)))) 3 = ((fateU u j : Nat) : Int) := by
  rw [mask3]
  have e : ((u : Int) / 2 ^ (2 * (j % 32))) = ((u / 2 ^ (2 * (j % 32)) : Nat) : Int) := by simp
  unfold fateU
  rw [e]
  generalize u / 2 ^ (2 * (j % 32)) = X
  unfold wrap64
  omega
theorem dfate1 (j : Nat) (w : World) : Calls Try.prog 125 #[.int .i64 j] w fun e w' => e = .returned (.int .i64 1) ∧ w = w' := by
  go_enter Try.func125, Try.ntmps125
  go_wp2_with fail
  go_ret
  exact ⟨rfl, rfl⟩
theorem dfate (u j q : Nat) (hu : u < 18446744073709551616) (hj : j ≤ 1000000) (w : World) (hc : w.cell? ⟨q, 0, none⟩ = some (.int .u64 u)) : Calls Try.prog 127 #[.int .i64 j, .pointer (some ⟨q, 0, none⟩)] w fun e w' => e = .returned (.int .i64 (fateU u j)) ∧ w = w' := by
  have hj2 : (j : Int) % 32 < 32 := by omega
  have hj3 : 0 ≤ (j : Int) % 32 := by omega
  go_enter Try.func127, Try.ntmps127
  go_wp2_with fail
  go_ret
  refine ⟨ret_int ?_, rfl⟩
  exact fate_and u j
/-- what is made sure -/
def syncS (S : List ByteArray) (L : List (Nat × ByteArray)) : List ByteArray := endS (fun _ => 1) 0 S L
/-- what a failure leaves -/
def crashS (u : Nat) (S : List ByteArray) (L : List (Nat × ByteArray)) : List ByteArray := endS (fun j => (fateU u j : Nat)) 0 S L
set_option maxRecDepth 100000 in
theorem dsync (w : World) (N p : Nat) (sv lv : Value) (S : List ByteArray) (L : List (Nat × ByteArray)) (h : Dsk w N p sv lv S L) (hL : L.length ≤ 1000000) :
    Calls Try.prog 70 #[.pointer (some ⟨p, 0, none⟩)] w fun e w' => e = .returned (.tuple #[]) ∧ Dsk w' N p sv (.slice none 0 0) (syncS S L) [] ∧ DKept w w' N p sv lv (.slice none 0 0) := by
  have c := dend 125 #[] (fun _ => 1) (fun _ => True) w N p sv lv S L h hL (fun args w => by rfl) trivial (fun _ _ _ => trivial) (fun j w' _ _ => (dfate1 j w').mono fun e w'' hh => ⟨hh.1, by rw [← hh.2]; exact Below.refl _ _⟩)
  go_enter Try.func70, Try.ntmps70
  go_wp2_with fail
  refine Calls.mono c ?_
  rintro e w2 ⟨rfl, h2, h3⟩
  go_wp2_with fail
  go_returns
  exact ⟨rfl, h2, h3⟩
theorem block_kept {w1 w2 : World} {N p q : Nat} {sv lv1 lv2 : Value} (hk : DKept w1 w2 N p sv lv1 lv2) (hq : q < w1.heap.size) (hp : q ≠ p) (hs : some q ≠ sv.ownBlock) (hl : some q ≠ lv1.ownBlock) (o : Nat) : w2.cell? ⟨q, o, none⟩ = w1.cell? ⟨q, o, none⟩ := by
  have e := hk.block q hq hp hs hl
  unfold World.cell?
  rw [e]
set_option maxRecDepth 100000 in
theorem dcrash (u : Nat) (hu : u < 18446744073709551616) (w : World) (N p : Nat) (sv lv : Value) (S : List ByteArray) (L : List (Nat × ByteArray)) (h : Dsk w N p sv lv S L) (hL : L.length ≤ 1000000) :
    Calls Try.prog 73 #[.pointer (some ⟨p, 0, none⟩), .int .u64 u] w fun e w' => e = .returned (.tuple #[]) ∧ Dsk w' N p sv (.slice none 0 0) (crashS u S L) [] ∧ DKept w w' N p sv lv (.slice none 0 0) := by
  have hb0 : Below w.heap.size w (w.alloc (.cells #[.int .u64 u] 119)) := (Below.refl _ _).alloc (Nat.le_refl _) _
  have hlt := h.lt
  have c := dend 127 #[.pointer (some ⟨w.heap.size, 0, none⟩)] (fun j => (fateU u j : Nat)) (fun wr => wr.cell? ⟨w.heap.size, 0, none⟩ = some (.int .u64 u)) (w.alloc (.cells #[.int .u64 u] 119)) N p sv lv S L (h.below hb0) hL (fun args w => by rfl)
    (by rw [World.cell?_alloc_at _ _ _ _ rfl]; rfl)
    (fun {w1 w2} hr k1 k2 => (block_kept k2 (Nat.lt_of_lt_of_le (by simp) k1.below.size) (by omega) (fun e => by have := (h.sure.lt _ e.symm).2; omega) (fun e => by have := (h.later.lt _ e.symm).2; omega) 0).trans hr)
    (fun j w' hj hr => (dfate u j w.heap.size hu (by omega) w' hr).mono fun e w'' hh => ⟨hh.1, by rw [← hh.2]; exact Below.refl _ _⟩)
  have HK := Lib.hid (DKept.of_below (p := p) (sv := sv) (lv := lv) h.le hb0)
  clear hb0 hlt h hu
  go_enter Try.func73, Try.ntmps73
  go_wp2_with fail
  refine Calls.mono c ?_
  rintro e w2 ⟨rfl, h2, h3⟩
  go_wp2_with fail
  go_returns
  exact ⟨rfl, h2, HK.out.trans h3⟩
end Go.Proofs.Ytlhjgpedmnjbpaa
