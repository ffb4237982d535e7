/-
  Plain facts of my own, of no program: worlds in which only one block may have turned; numbers as bytes, the highest first.
-/
import Derived.Test.YtgnnijpfkgmomaaGreatDoorRows
import Derived.WalkKit
import Derived.Lib.BitFns
import Derived.Lib.Strings
import Derived.Lib.Hide
import Derived.Lib.AppendStr
import Derived.Deep.Draws
namespace Go.Proofs.YtgnnijpfkgmomaaGreatDoor
open Go.RowKit

/-- Of the blocks that there were only block b may have turned. -/
structure Only (b : Nat) (w w' : World) : Prop where
  os : w'.os = w.os
  tape : w'.tape = w.tape
  output : w'.output = w.output
  size : w.heap.size ≤ w'.heap.size
  block : ∀ k, k < w.heap.size → k ≠ b → w'.heap[k]? = w.heap[k]?

theorem Only.refl (b : Nat) (w : World) : Only b w w := ⟨rfl, rfl, rfl, Nat.le_refl _, fun _ _ _ => rfl⟩
theorem Only.trans {b : Nat} {x y z : World} (h : Only b x y) (k : Only b y z) : Only b x z :=
  ⟨k.os.trans h.os, k.tape.trans h.tape, k.output.trans h.output, Nat.le_trans h.size k.size, fun i hi hb => (k.block i (Nat.lt_of_lt_of_le hi h.size) hb).trans (h.block i hi hb)⟩
theorem Only.set {b : Nat} {x y : World} (h : Only b x y) (o : Nat) (u : Value) : Only b x (y.setCell ⟨b, o, none⟩ u) :=
  h.trans ⟨rfl, rfl, rfl, by simp [World.setCell], fun k _ hb => Below.heap_setCell _ _ _ _ hb⟩
theorem Only.alloc {b : Nat} {x y : World} (h : Only b x y) (o : Obj) : Only b x (y.alloc o) :=
  h.trans ⟨rfl, rfl, rfl, by simp, fun k hk _ => Below.heap_alloc _ _ _ hk⟩
theorem Only.drew {b : Nat} {x y : World} (h : Only b x y) : Only b x y.drew := ⟨h.os, h.tape, h.output, h.size, h.block⟩
/-- what is as it was, is so for whoever may turn block b -/
theorem Only.of_below {b : Nat} {x y : World} (h : Below x.heap.size x y) : Only b x y := ⟨h.os, h.tape, h.output, h.size, fun k hk _ => h.block k hk⟩
/-- a block of the call's own may turn -/
theorem Only.below {b B : Nat} {x y : World} (h : Only b x y) (hb : B ≤ b) (hB : B ≤ x.heap.size) : Below B x y :=
  ⟨h.os, h.tape, h.output, h.size, fun k hk => h.block k (by omega) (by omega)⟩

theorem Only.grownBy {b : Nat} {x y : World} (h : Only b x y) : x.grownBy y (some b) := ⟨h.os, h.tape, h.output, h.size, fun k hk hn => h.block k hk (fun e => hn (by rw [e]))⟩
/-- a row of the call's own may turn, too -/
theorem Only.grown {b : Nat} {w x y : World} {row : Option Nat} (h : Only b w x) (hg : x.grownBy y row) (hr : ∀ k, row = some k → w.heap.size ≤ k) : Only b w y :=
  ⟨hg.os.trans h.os, hg.tape.trans h.tape, hg.output.trans h.output, Nat.le_trans h.size hg.size,
    fun k hk hb => (hg.block k (Nat.lt_of_lt_of_le hk h.size) (fun e => by have := hr k e.symm; omega)).trans (h.block k hk hb)⟩
theorem owns_kept {w w' : World} {b base n size : Nat} {e : TypeId} {v : Value} {xs : List Value} (h : w.ownsRow base e size v n xs) (ho : Only b w w') (hb : b < base) : w'.ownsRow base e size v n xs := by
  refine h.kept ho.grownBy ?_
  cases hv : v.ownBlock with
  | none => exact .inl rfl
  | some k =>
    right
    intro he
    have := (h.lt k hv).1
    cases he
    omega

theorem heap_set_self {w : World} {b : Nat} {c : Array Value} {t : TypeId} {fr : Nat × Nat} (h : w.heap[b]? = some (.cells c t fr)) (o : Nat) (u : Value) :
    (w.setCell ⟨b, o, none⟩ u).heap[b]? = some (.cells (c.setIfInBounds o u) t fr) := by
  have hlt : b < w.heap.size := by
    rcases Nat.lt_or_ge b w.heap.size with h' | h'
    · exact h'
    · simp [Array.getElem?_eq_none h'] at h
  have h' : w.heap[b] = .cells c t fr := by simpa [Array.getElem?_eq_getElem hlt] using h
  show (w.heap.modify b _)[b]? = _
  rw [Array.getElem?_eq_getElem (by simpa using hlt), Array.getElem_modify_self, h']
  rfl
theorem heap_alloc_self (w : World) (o : Obj) : (w.alloc o).heap[w.heap.size]? = some o := by
  show (w.heap.push o)[w.heap.size]? = _
  simp
theorem lt_heap {w : World} {b : Nat} {o : Obj} (h : w.heap[b]? = some o) : b < w.heap.size := by
  rcases Nat.lt_or_ge b w.heap.size with h' | h'
  · exact h'
  · simp [Array.getElem?_eq_none h'] at h
theorem below_at {B : Nat} {w w' : World} (h : Below B w w') {b : Nat} {o : Obj} (hb : b < B) (ho : w.heap[b]? = some o) : w'.heap[b]? = some o := (h.block b hb).trans ho

theorem str_ext {s t : ByteArray} (h : s.data.toList = t.data.toList) : s = t := by
  obtain ⟨⟨l⟩⟩ := s
  obtain ⟨⟨m⟩⟩ := t
  simp at h
  subst h
  rfl
theorem str_extract (l : List UInt8) (a b : Nat) : ByteArray.extract ⟨l.toArray⟩ a b = ⟨((l.drop a).take (b - a)).toArray⟩ :=
  str_ext (by rw [Lib.extract_data])
theorem str_drop (l : List UInt8) (a : Nat) : ByteArray.extract ⟨l.toArray⟩ a l.length = ⟨(l.drop a).toArray⟩ := by
  rw [str_extract, List.take_of_length_le (by simp)]

theorem str_take (l : List UInt8) (b : Nat) : ByteArray.extract ⟨l.toArray⟩ 0 b = ⟨(l.take b).toArray⟩ := by
  rw [str_extract]; simp
theorem ret_str {s t : ByteArray} (h : s = t) : Ending.returned (.string s) = .returned (.string t) := by rw [h]
theorem ret_int {k : IntKind} {a b : Int} (h : a = b) : Ending.returned (.int k a) = .returned (.int k b) := by rw [h]
theorem ret_bool {a b : Bool} (h : a = b) : Ending.returned (.bool a) = .returned (.bool b) := by rw [h]

/-- bytes as cells -/
def bCells (l : List UInt8) : List Value := l.map fun c => .int .u8 c.toNat
theorem bCells_append (a b : List UInt8) : bCells a ++ bCells b = bCells (a ++ b) := by simp [bCells]
theorem bCells_length (a : List UInt8) : (bCells a).length = a.length := by simp [bCells]
theorem bCells_str (s : ByteArray) : Lib.strCells s = bCells s.data.toList := rfl
/-- 'string(b)' of a slice of the call's own -/
theorem owned_string {P : Program} {w : World} {base n : Nat} {src dst e : TypeId} {v : Value} {l : List UInt8} (hs : P.underlying src = some (.slice e)) (he : P.underlying e = some (.int .u8)) (hd : P.underlying dst = some .string)
    (h : w.ownsRow base e 1 v n (bCells l)) : (convert src dst v).run P w = .ok (.string ⟨l.toArray⟩) w := by
  have hl : l.length = n := by simpa [bCells_length] using h.1
  rcases h.2 with ⟨rfl, hn⟩ | ⟨g, cap, cur, rfl, hb, hg, hnc, hcm, hcs, ht⟩
  · have : l = [] := List.eq_nil_of_length_eq_zero (by omega)
    subst this
    exact run_convert_bytes_nil w src e hs he 0 0 dst hd
  · subst hl
    refine run_convert_bytes_back w src dst e ⟨g, 0, none⟩ cap l hs he hd fun j hj => ?_
    have hc := h.cells (g := g) rfl j (.int .u8 l[j].toNat) (by simp [bCells, hj])
    exact hc

/-- 'string([]byte{..})' -/
theorem lit_string {P : Program} {src dst e : TypeId} (hs : P.underlying src = some (.slice e)) (he : P.underlying e = some (.int .u8)) (hd : P.underlying dst = some .string) (l : List UInt8) (C : Array Value) (n c : Nat)
    (hn : n = l.length) (hC : C = (bCells l).toArray) (w : World) :
    (convert src dst (.slice (some ⟨w.heap.size, 0, none⟩) n c)).run P (w.alloc (.cells C e)) = .ok (.string ⟨l.toArray⟩) (w.alloc (.cells C e)) := by
  subst hn hC
  refine run_convert_bytes_back _ src dst e ⟨w.heap.size, 0, none⟩ c l hs he hd fun j hj => ?_
  have : (⟨w.heap.size, 0, none⟩ : Addr).add j = ⟨w.heap.size, j, none⟩ := by unfold Addr.add; split <;> simp_all
  rw [this, World.cell?_alloc_at _ _ _ _ rfl]
  simp [bCells, hj]
/-- 'string' of one byte in a block that there is -/
theorem one_string {P : Program} {src dst e : TypeId} (hs : P.underlying src = some (.slice e)) (he : P.underlying e = some (.int .u8)) (hd : P.underlying dst = some .string) (d : UInt8) (c : Int) (hc : c = (d.toNat : Int)) (w : World) (b : Nat)
    (h : w.cell? ⟨b, 0, none⟩ = some (.int .u8 c)) : (convert src dst (.slice (some ⟨b, 0, none⟩) 1 1)).run P w = .ok (.string ⟨#[d]⟩) w := by
  subst hc
  refine run_convert_bytes_back w src dst e ⟨b, 0, none⟩ 1 [d] hs he hd fun j hj => ?_
  obtain rfl : j = 0 := by simpa using hj
  simpa [Addr.add] using h
theorem str_append (a b : List UInt8) : (⟨a.toArray⟩ : ByteArray) ++ ⟨b.toArray⟩ = ⟨(a ++ b).toArray⟩ := str_ext (by simp)

theorem drewN_heap (w : World) (n : Nat) : (w.drewN n).heap = w.heap := rfl
theorem Only.drewN {b : Nat} {x y : World} (h : Only b x y) (n : Nat) : Only b x (y.drewN n) := ⟨h.os, h.tape, h.output, h.size, h.block⟩
theorem below_drewN' {B : Nat} {x y : World} (h : Below B x y) (n : Nat) : Below B x (y.drewN n) := ⟨h.os, h.tape, h.output, h.size, h.block⟩
/-- the length of a text in a slot: for a loop's measure -/
def strLen : Value → Nat | .string s => s.data.toList.length | _ => 0

/-- what is told of a slice of integers that came in: it is nil; or it leads to a row of cap cells, the numbers zs (the first len are its elements), each fitting its kind -/
def RowOf (k : IntKind) (w : World) (a : Option Addr) (len cap : Nat) (zs : List Int) : Prop :=
  (a = none ∧ len = 0 ∧ cap = 0 ∧ zs = []) ∨
  ∃ x, a = some x ∧ len ≤ cap ∧ cap ≤ maxLen ∧ zs.length = cap ∧ (∀ i, i < zs.length → w.cell? (x.add i) = some (.int k (zs.getD i 0))) ∧ ∀ n ∈ zs, (Lit.int k n).wf = true

theorem min_toNat (a : Nat) (b : Int) (h : 0 ≤ b) : (min (a : Int) b).toNat = min a b.toNat := by omega

/-! ### Numbers as bytes -/

/-- k bytes of a number, the highest first -/
def beN : Nat → Nat → List UInt8
  | 0, _ => []
  | k + 1, n => UInt8.ofNat (n / 256 ^ k) :: beN k n
/-- how many bytes a number needs -/
def needN (n : Nat) : Nat := (Lib.bitLen n + 7) / 8
/-- the bytes that a number needs -/
def hiN (n : Nat) : List UInt8 := beN (needN n) n
/-- Put -/
def putN (n : Nat) : List UInt8 := UInt8.ofNat (needN n) :: hiN n

theorem beN_length (k n : Nat) : (beN k n).length = k := by
  induction k with
  | zero => rfl
  | succ k ih => simp [beN, ih]

theorem needN_le (n : Nat) (h : n < 18446744073709551616) : needN n ≤ 8 := by
  have := Lib.bitLen_le n 64 (by omega) h
  unfold needN; omega
theorem needN_zero : needN 0 = 0 := by decide
theorem needN_step (n : Nat) (h0 : n ≠ 0) (h : n < 18446744073709551616) : needN n = needN (n / 256) + 1 := by
  unfold needN
  by_cases h8 : n < 256
  · have e : n / 256 = 0 := by omega
    have l := Lib.bitLen_le n 8 (by omega) h8
    have z : Lib.bitLen 0 = 0 := by decide
    have p : Lib.bitLen n = 1 + Lib.bitLen (n / 2) := Lib.bitLen_half n h0 h
    rw [e, z]; omega
  · rw [Lib.bitLen_shift8 n (by omega) h]; omega
theorem beN_snoc (k n : Nat) : beN (k + 1) n = beN k (n / 256) ++ [UInt8.ofNat n] := by
  induction k with
  | zero => simp [beN]
  | succ k ih =>
    rw [beN, ih, beN, List.cons_append, Nat.div_div_eq_div_mul, show (256 : Nat) ^ (k + 1) = 256 * 256 ^ k by rw [Nat.pow_succ, Nat.mul_comm]]
theorem hiN_zero : hiN 0 = [] := by rw [hiN, needN_zero]; rfl
theorem hiN_step (n : Nat) (h0 : n ≠ 0) (h : n < 18446744073709551616) : hiN n = hiN (n / 256) ++ [UInt8.ofNat n] := by
  unfold hiN
  rw [needN_step n h0 h, beN_snoc]
theorem beN_drop_last (k n : Nat) : (beN (k + 1) n).take k = beN k (n / 256) := by
  rw [beN_snoc, List.take_left' (beN_length _ _)]

/-- one byte more -/
theorem beN_more (m N k : Nat) (hk : 1 ≤ k) (hkm : k ≤ m) : (beN m N).take (m - k) ++ [UInt8.ofNat (N / 256 ^ (k - 1))] = (beN m N).take (m - (k - 1)) := by
  induction m with
  | zero => omega
  | succ m ih =>
    by_cases h : k = m + 1
    · subst h
      rw [show m + 1 - (m + 1) = 0 by omega, show m + 1 - (m + 1 - 1) = 1 by omega]
      simp [beN]
    · have := ih (by omega)
      rw [show m + 1 - k = (m - k) + 1 by omega, show m + 1 - (k - 1) = (m - (k - 1)) + 1 by omega]
      simpa [beN] using this

theorem byte_at (n : Int) (h : 0 ≤ n) (j : Nat) : n / 2 ^ (8 * j) % 256 = ((UInt8.ofNat (n.toNat / 256 ^ j)).toNat : Int) := by
  obtain ⟨N, rfl⟩ := Int.eq_ofNat_of_zero_le h
  have e : (2 : Int) ^ (8 * j) = ((256 ^ j : Nat) : Int) := by rw [Int.pow_mul]; simp
  rw [e]
  simp

/-- what bytes say -/
def valN (l : List UInt8) : Nat := l.foldl (fun a c => a * 256 + c.toNat) 0
theorem valN_snoc (l : List UInt8) (c : UInt8) : valN (l ++ [c]) = valN l * 256 + c.toNat := by simp [valN]
theorem valN_nil : valN [] = 0 := rfl
theorem valN_beN (k n : Nat) : valN (beN k n) = n % 256 ^ k := by
  induction k generalizing n with
  | zero => simp [beN, valN, Nat.mod_one]
  | succ k ih =>
    have e : (UInt8.ofNat n).toNat = n % 256 := by simp
    rw [beN_snoc, valN_snoc, ih, e, show (256 : Nat) ^ (k + 1) = 256 * 256 ^ k by rw [Nat.pow_succ, Nat.mul_comm], Nat.mod_mul]
    omega
theorem needN_bound (n : Nat) (h : n < 18446744073709551616) : n < 256 ^ needN n := by
  induction n using Nat.strongRecOn with
  | ind n ih =>
    by_cases h0 : n = 0
    · subst h0; rw [needN_zero]; decide
    · have := ih (n / 256) (by omega) (by omega)
      rw [needN_step n h0 h, Nat.pow_succ]; omega
theorem valN_hiN (n : Nat) (h : n < 18446744073709551616) : valN (hiN n) = n := by
  unfold hiN; rw [valN_beN, Nat.mod_eq_of_lt (needN_bound n h)]
theorem hiN_length (n : Nat) : (hiN n).length = needN n := beN_length _ _
theorem putN_length (n : Nat) (h : n < 18446744073709551616) : (putN n).length ≤ 9 := by
  have := needN_le n h
  simp [putN, hiN_length]; omega
theorem hiN_head (n : Nat) (h0 : n ≠ 0) (h : n < 18446744073709551616) : ∃ c l, hiN n = c :: l ∧ c ≠ 0 := by
  induction n using Nat.strongRecOn with
  | ind n ih =>
    by_cases h8 : n / 256 = 0
    · refine ⟨UInt8.ofNat n, [], ?_, ?_⟩
      · rw [hiN_step n h0 h, h8, hiN_zero]; rfl
      · intro hc
        have := congrArg UInt8.toNat hc
        simp at this; omega
    · obtain ⟨c, l, e, hc⟩ := ih (n / 256) (by omega) h8 (by omega)
      exact ⟨c, l ++ [UInt8.ofNat n], by rw [hiN_step n h0 h, e]; rfl, hc⟩
theorem foldl_lt (l : List UInt8) (a : Nat) : l.foldl (fun a c => a * 256 + c.toNat) a < (a + 1) * 256 ^ l.length := by
  induction l generalizing a with
  | nil => simp
  | cons c l ih =>
    have h := ih (a * 256 + c.toNat)
    have hc := c.toNat_lt
    simp only [List.foldl_cons, List.length_cons, Nat.pow_succ]
    refine Nat.lt_of_lt_of_le h ?_
    rw [Nat.mul_comm (256 ^ l.length) 256, ← Nat.mul_assoc]
    exact Nat.mul_le_mul_right _ (by omega)
theorem valN_lt (l : List UInt8) : valN l < 256 ^ l.length := by
  have := foldl_lt l 0
  simpa [valN] using this
end Go.Proofs.YtgnnijpfkgmomaaGreatDoor
