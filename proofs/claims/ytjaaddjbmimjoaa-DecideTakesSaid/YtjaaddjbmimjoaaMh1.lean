/-
  Several texts, laid together.
-/
import Derived.Test.YtjaaddjbmimjoaaRows
import Derived.WalkKit
import Derived.Lib.BitFns
import Derived.Lib.Strings
import Derived.Lib.Hide
import Derived.Lib.AppendStr
import Derived.Deep.Draws
import Derived.Maps.AppendAt
import Derived.Laws.OwnMore
import Derived.OwnWalk
import Derived.RegionTactic
import Derived.BigQuiet
import Derived.Handy
import Derived.WalkLawsBesides
import Derived.WalkSpells
import Derived.IntWalk
import Derived.Deep.DeepCutAuto
import Derived.Deep.QuietTactic
import Derived.Deep.RegionHeld3
import Derived.Deep.CutBlock
import Derived.Deep.RegionWith
import Derived.StillTailTactics
/-
  Plain facts of my own, of no program: worlds in which only one block may have turned; numbers as bytes, the highest first.
-/







namespace Go.Proofs.Ytjaaddjbmimjoaa
open Go.RowKit

/-- Of the blocks that there were only block b may have turned. -/
structure Only (b : Nat) (w w' : World) : Prop where
  os : w'.os = w.os
  tape : w'.tape = w.tape
  output : w'.output = w.output
  size : w.heap.size ≤ w'.heap.size
  block : ∀ k, k < w.heap.size → k ≠ b → w'.heap[k]? = w.heap[k]?

theorem Only.refl (b : Nat) (w : World) : Only b w w := ⟨rfl, rfl, rfl, Nat.le_refl _, fun _ _ _ => rfl⟩
theorem Only.trans {b : Nat} {x y z : World} (h : Only b x y) (k : Only b y z) : Only b x z :=
  ⟨k.os.trans h.os, k.tape.trans h.tape, k.output.trans h.output, Nat.le_trans h.size k.size, fun i hi hb => (k.block i (Nat.lt_of_lt_of_le hi h.size) hb).trans (h.block i hi hb)⟩
theorem Only.set {b : Nat} {x y : World} (h : Only b x y) (o : Nat) (u : Value) : Only b x (y.setCell ⟨b, o, none⟩ u) :=
  h.trans ⟨rfl, rfl, rfl, by simp [World.setCell], fun k _ hb => Below.heap_setCell _ _ _ _ hb⟩
theorem Only.alloc {b : Nat} {x y : World} (h : Only b x y) (o : Obj) : Only b x (y.alloc o) :=
  h.trans ⟨rfl, rfl, rfl, by simp, fun k hk _ => Below.heap_alloc _ _ _ hk⟩
theorem Only.drew {b : Nat} {x y : World} (h : Only b x y) : Only b x y.drew := ⟨h.os, h.tape, h.output, h.size, h.block⟩
/-- a block of the call's own may turn -/
theorem Only.below {b B : Nat} {x y : World} (h : Only b x y) (hb : B ≤ b) (hB : B ≤ x.heap.size) : Below B x y :=
  ⟨h.os, h.tape, h.output, h.size, fun k hk => h.block k (by omega) (by omega)⟩

theorem Only.grownBy {b : Nat} {x y : World} (h : Only b x y) : x.grownBy y (some b) := ⟨h.os, h.tape, h.output, h.size, fun k hk hn => h.block k hk (fun e => hn (by rw [e]))⟩
/-- a row of the call's own may turn, too -/
theorem Only.grown {b : Nat} {w x y : World} {row : Option Nat} (h : Only b w x) (hg : x.grownBy y row) (hr : ∀ k, row = some k → w.heap.size ≤ k) : Only b w y :=
  ⟨hg.os.trans h.os, hg.tape.trans h.tape, hg.output.trans h.output, Nat.le_trans h.size hg.size,
    fun k hk hb => (hg.block k (Nat.lt_of_lt_of_le hk h.size) (fun e => by have := hr k e.symm; omega)).trans (h.block k hk hb)⟩
theorem owns_kept {w w' : World} {b base n size : Nat} {e : TypeId} {v : Value} {xs : List Value} (h : w.ownsRow base e size v n xs) (ho : Only b w w') (hb : b < base) : w'.ownsRow base e size v n xs := by
  refine h.kept ho.grownBy ?_
  cases hv : v.ownBlock with
  | none => exact .inl rfl
  | some k =>
    right
    intro he
    have := (h.lt k hv).1
    cases he
    omega

theorem heap_set_self {w : World} {b : Nat} {c : Array Value} {t : TypeId} {fr : Nat × Nat} (h : w.heap[b]? = some (.cells c t fr)) (o : Nat) (u : Value) :
    (w.setCell ⟨b, o, none⟩ u).heap[b]? = some (.cells (c.setIfInBounds o u) t fr) := by
  have hlt : b < w.heap.size := by
    rcases Nat.lt_or_ge b w.heap.size with h' | h'
    · exact h'
    · simp [Array.getElem?_eq_none h'] at h
  have h' : w.heap[b] = .cells c t fr := by simpa [Array.getElem?_eq_getElem hlt] using h
  show (w.heap.modify b _)[b]? = _
  rw [Array.getElem?_eq_getElem (by simpa using hlt), Array.getElem_modify_self, h']
  rfl
theorem heap_alloc_self (w : World) (o : Obj) : (w.alloc o).heap[w.heap.size]? = some o := by
  show (w.heap.push o)[w.heap.size]? = _
  simp
theorem lt_heap {w : World} {b : Nat} {o : Obj} (h : w.heap[b]? = some o) : b < w.heap.size := by
  rcases Nat.lt_or_ge b w.heap.size with h' | h'
  · exact h'
  · simp [Array.getElem?_eq_none h'] at h
theorem below_at {B : Nat} {w w' : World} (h : Below B w w') {b : Nat} {o : Obj} (hb : b < B) (ho : w.heap[b]? = some o) : w'.heap[b]? = some o := (h.block b hb).trans ho

theorem str_ext {s t : ByteArray} (h : s.data.toList = t.data.toList) : s = t := by
  obtain ⟨⟨l⟩⟩ := s
  obtain ⟨⟨m⟩⟩ := t
  simp at h
  subst h
  rfl
theorem str_extract (l : List UInt8) (a b : Nat) : ByteArray.extract ⟨l.toArray⟩ a b = ⟨((l.drop a).take (b - a)).toArray⟩ :=
  str_ext (by rw [Lib.extract_data])
theorem str_drop (l : List UInt8) (a : Nat) : ByteArray.extract ⟨l.toArray⟩ a l.length = ⟨(l.drop a).toArray⟩ := by
  rw [str_extract, List.take_of_length_le (by simp)]

theorem str_take (l : List UInt8) (b : Nat) : ByteArray.extract ⟨l.toArray⟩ 0 b = ⟨(l.take b).toArray⟩ := by
  rw [str_extract]; simp
theorem ret_str {s t : ByteArray} (h : s = t) : Ending.returned (.string s) = .returned (.string t) := by rw [h]
theorem ret_int {k : IntKind} {a b : Int} (h : a = b) : Ending.returned (.int k a) = .returned (.int k b) := by rw [h]
theorem ret_bool {a b : Bool} (h : a = b) : Ending.returned (.bool a) = .returned (.bool b) := by rw [h]

/-- bytes as cells -/
def bCells (l : List UInt8) : List Value := l.map fun c => .int .u8 c.toNat
/-- 'string([]byte{..})' -/
theorem lit_string {P : Program} {src dst e : TypeId} (hs : P.underlying src = some (.slice e)) (he : P.underlying e = some (.int .u8)) (hd : P.underlying dst = some .string) (l : List UInt8) (C : Array Value) (n c : Nat)
    (hn : n = l.length) (hC : C = (bCells l).toArray) (w : World) :
    (convert src dst (.slice (some ⟨w.heap.size, 0, none⟩) n c)).run P (w.alloc (.cells C e)) = .ok (.string ⟨l.toArray⟩) (w.alloc (.cells C e)) := by
  subst hn hC
  refine run_convert_bytes_back _ src dst e ⟨w.heap.size, 0, none⟩ c l hs he hd fun j hj => ?_
  have : (⟨w.heap.size, 0, none⟩ : Addr).add j = ⟨w.heap.size, j, none⟩ := by unfold Addr.add; split <;> simp_all
  rw [this, World.cell?_alloc_at _ _ _ _ rfl]
  simp [bCells, hj]
/-- 'string' of one byte in a block that there is -/
theorem one_string {P : Program} {src dst e : TypeId} (hs : P.underlying src = some (.slice e)) (he : P.underlying e = some (.int .u8)) (hd : P.underlying dst = some .string) (d : UInt8) (c : Int) (hc : c = (d.toNat : Int)) (w : World) (b : Nat)
    (h : w.cell? ⟨b, 0, none⟩ = some (.int .u8 c)) : (convert src dst (.slice (some ⟨b, 0, none⟩) 1 1)).run P w = .ok (.string ⟨#[d]⟩) w := by
  subst hc
  refine run_convert_bytes_back w src dst e ⟨b, 0, none⟩ 1 [d] hs he hd fun j hj => ?_
  obtain rfl : j = 0 := by simpa using hj
  simpa [Addr.add] using h
theorem str_append (a b : List UInt8) : (⟨a.toArray⟩ : ByteArray) ++ ⟨b.toArray⟩ = ⟨(a ++ b).toArray⟩ := str_ext (by simp)

theorem Only.drewN {b : Nat} {x y : World} (h : Only b x y) (n : Nat) : Only b x (y.drewN n) := ⟨h.os, h.tape, h.output, h.size, h.block⟩
theorem below_drewN' {B : Nat} {x y : World} (h : Below B x y) (n : Nat) : Below B x (y.drewN n) := ⟨h.os, h.tape, h.output, h.size, h.block⟩
/-- what is told of a slice of integers that came in: it is nil; or it leads to a row of cap cells, the numbers zs (the first len are its elements), each fitting its kind -/
def RowOf (k : IntKind) (w : World) (a : Option Addr) (len cap : Nat) (zs : List Int) : Prop :=
  (a = none ∧ len = 0 ∧ cap = 0 ∧ zs = []) ∨
  ∃ x, a = some x ∧ len ≤ cap ∧ cap ≤ maxLen ∧ zs.length = cap ∧ (∀ i, i < zs.length → w.cell? (x.add i) = some (.int k (zs.getD i 0))) ∧ ∀ n ∈ zs, (Lit.int k n).wf = true

/-! ### Numbers as bytes -/

/-- k bytes of a number, the highest first -/
def beN : Nat → Nat → List UInt8
  | 0, _ => []
  | k + 1, n => UInt8.ofNat (n / 256 ^ k) :: beN k n
/-- how many bytes a number needs -/
def needN (n : Nat) : Nat := (Lib.bitLen n + 7) / 8
/-- the bytes that a number needs -/
def hiN (n : Nat) : List UInt8 := beN (needN n) n
/-- Put -/
def putN (n : Nat) : List UInt8 := UInt8.ofNat (needN n) :: hiN n

theorem beN_length (k n : Nat) : (beN k n).length = k := by
  induction k with
  | zero => rfl
  | succ k ih => simp [beN, ih]

theorem needN_le (n : Nat) (h : n < 18446744073709551616) : needN n ≤ 8 := by
  have := Lib.bitLen_le n 64 (by omega) h
  unfold needN; omega
theorem needN_zero : needN 0 = 0 := by decide
theorem needN_step (n : Nat) (h0 : n ≠ 0) (h : n < 18446744073709551616) : needN n = needN (n / 256) + 1 := by
  unfold needN
  by_cases h8 : n < 256
  · have e : n / 256 = 0 := by omega
    have l := Lib.bitLen_le n 8 (by omega) h8
    have z : Lib.bitLen 0 = 0 := by decide
    have p : Lib.bitLen n = 1 + Lib.bitLen (n / 2) := Lib.bitLen_half n h0 h
    rw [e, z]; omega
  · rw [Lib.bitLen_shift8 n (by omega) h]; omega
theorem beN_snoc (k n : Nat) : beN (k + 1) n = beN k (n / 256) ++ [UInt8.ofNat n] := by
  induction k with
  | zero => simp [beN]
  | succ k ih =>
    rw [beN, ih, beN, List.cons_append, Nat.div_div_eq_div_mul, show (256 : Nat) ^ (k + 1) = 256 * 256 ^ k by rw [Nat.pow_succ, Nat.mul_comm]]
theorem hiN_zero : hiN 0 = [] := by rw [hiN, needN_zero]; rfl
theorem hiN_step (n : Nat) (h0 : n ≠ 0) (h : n < 18446744073709551616) : hiN n = hiN (n / 256) ++ [UInt8.ofNat n] := by
  unfold hiN
  rw [needN_step n h0 h, beN_snoc]
/-- what bytes say -/
def valN (l : List UInt8) : Nat := l.foldl (fun a c => a * 256 + c.toNat) 0
theorem valN_snoc (l : List UInt8) (c : UInt8) : valN (l ++ [c]) = valN l * 256 + c.toNat := by simp [valN]
theorem hiN_length (n : Nat) : (hiN n).length = needN n := beN_length _ _
theorem putN_length (n : Nat) (h : n < 18446744073709551616) : (putN n).length ≤ 9 := by
  have := needN_le n h
  simp [putN, hiN_length]; omega
theorem foldl_lt (l : List UInt8) (a : Nat) : l.foldl (fun a c => a * 256 + c.toNat) a < (a + 1) * 256 ^ l.length := by
  induction l generalizing a with
  | nil => simp
  | cons c l ih =>
    have h := ih (a * 256 + c.toNat)
    have hc := c.toNat_lt
    simp only [List.foldl_cons, List.length_cons, Nat.pow_succ]
    refine Nat.lt_of_lt_of_le h ?_
    rw [Nat.mul_comm (256 ^ l.length) 256, ← Nat.mul_assoc]
    exact Nat.mul_le_mul_right _ (by omega)
theorem valN_lt (l : List UInt8) : valN l < 256 ^ l.length := by
  have := foldl_lt l 0
  simpa [valN] using this
end Go.Proofs.Ytjaaddjbmimjoaa
/-
  Slices that read as lists of cells (a slice that came in, or one of the call's own), and append onto a row of the call's own, whatever its source is. Of no program.
-/





namespace Go.Proofs.Ytjaaddjbmimjoaa
open Go.RowKit
set_option linter.unusedVariables false
set_option linter.unusedSimpArgs false

/-- the slice v has n elements of so many cells each, which are xs -/
def SR (w : World) (v : Value) (size n : Nat) (xs : List Value) : Prop :=
  ∃ a cap, v = .slice a n cap ∧ n ≤ cap ∧ cap ≤ maxLen ∧ xs.length = n * size ∧
    (n = 0 ∨ ∃ b off, a = some ⟨b, off, none⟩ ∧ b < w.heap.size ∧ ∀ (j : Nat) u, xs[j]? = some u → w.cell? ⟨b, off + j, none⟩ = some u)

theorem SR.below {w w' : World} {v : Value} {size n : Nat} {xs : List Value} (h : SR w v size n xs) (hb : Below w.heap.size w w') : SR w' v size n xs := by
  obtain ⟨a, cap, rfl, h1, h2, h3, h4⟩ := h
  refine ⟨a, cap, rfl, h1, h2, h3, h4.imp id ?_⟩
  rintro ⟨b, off, rfl, hlt, hc⟩
  exact ⟨b, off, rfl, Nat.lt_of_lt_of_le hlt hb.size, fun j u hj => (hb.cell (p := ⟨b, off + j, none⟩) hlt).trans (hc j u hj)⟩
theorem SR.nil_ (w : World) (size : Nat) : SR w (.slice none 0 0) size 0 [] := ⟨none, 0, rfl, Nat.le_refl _, Nat.zero_le _, by simp, .inl rfl⟩
theorem add_off (b off j : Nat) : (⟨b, off, none⟩ : Addr).add j = ⟨b, off + j, none⟩ := by unfold Addr.add; split <;> simp_all
theorem SR.owns {w : World} {base : Nat} {e : TypeId} {size n : Nat} {v : Value} {xs : List Value} (h : w.ownsRow base e size v n xs) : SR w v size n xs := by
  have h1 := h.1
  have hc := fun g => h.cells (g := g)
  rcases h.2 with ⟨rfl, rfl⟩ | ⟨g, cap, cur, rfl, hb, hg, hnc, hcm, hcs, ht⟩
  · exact ⟨none, 0, rfl, Nat.le_refl _, Nat.zero_le _, h1, .inl rfl⟩
  · refine ⟨some ⟨g, 0, none⟩, cap, rfl, hnc, hcm, h1, .inr ⟨g, 0, rfl, lt_heap hg, fun j u hj => ?_⟩⟩
    rw [← add_off]
    exact hc g rfl j u hj
/-- a literal of cells that was laid just now -/
theorem SR.lit (w : World) (e : TypeId) (cs : Array Value) (size n : Nat) (hm : n ≤ maxLen) (hs : cs.size = n * size) : SR (w.alloc (.cells cs e)) (.slice (some ⟨w.heap.size, 0, none⟩) n n) size n cs.toList :=
  SR.owns (World.ownsRow_lit (base := w.heap.size) w cs n (Nat.le_refl _) hm hs)
/-- the first k elements -/
theorem SR.front {w : World} {a : Option Addr} {len cap size : Nat} {xs : List Value} (h : SR w (.slice a len cap) size len xs) (k : Nat) (hk : k ≤ len) : SR w (.slice a k cap) size k (xs.take (k * size)) := by
  obtain ⟨a', cap', he, h1, h2, h3, h4⟩ := h
  injection he with e1 _ e2
  subst e1 e2
  refine ⟨a, cap, rfl, by omega, h2, ?_, ?_⟩
  · rw [List.length_take, h3]
    exact Nat.min_eq_left (Nat.mul_le_mul_right _ hk)
  · rcases h4 with h4 | ⟨b, off, rfl, hb, hc⟩
    · exact .inl (by omega)
    · refine .inr ⟨b, off, rfl, hb, fun j u hj => hc j u ?_⟩
      rw [List.getElem?_take] at hj
      split at hj
      · exact hj
      · cases hj

section
variable {P : Program}
theorem run_app {t ty e : TypeId} {i : TypeInfo} {z : Value} {size bytes : Nat} (ht : P.underlying t = some (.slice e)) (hi : P.info? e = some i) (hz : i.zero = some z) (hsize : i.size = size) (hby : i.bytes = bytes)
    (hzs : z.cells.size = size) (hsz : 0 < size) (w : World) (base : Nat) (v : Value) (n : Nat) (xs : List Value) (hown : w.ownsRow base e size v n xs) (u : Value) (m : Nat) (news : List Value) (hr : SR w u size m news)
    (h1 : ∀ y ∈ news, y.oneCell' = true) (h63 : n + m ≤ maxLen) (hbytes : (n + m) * bytes ≤ 140737488355328) (hbase : base ≤ w.heap.size) :
    ∃ v' w', (Builtin.append_ #[t, t] ty #[v, u]).run P w = .ok v' w' ∧ w'.ownsRow base e size v' (n + m) (xs ++ news) ∧ w.grownBy w' v.ownBlock := by
  obtain ⟨a, cap, rfl, hmc, hcm, hl, hc⟩ := hr
  have hcells : ∀ ad, a = some ad → ∀ (j : Nat) y, news[j]? = some y → w.cell? (ad.add j) = some y := by
    intro ad e1 j y hj
    rcases hc with h0 | ⟨b, off, e2, _, hcell⟩
    · subst h0
      have : news = [] := List.eq_nil_of_length_eq_zero (by omega)
      subst this
      simp at hj
    · rw [e1] at e2
      cases e2
      rw [add_off]
      exact hcell j y hj
  rcases a with _ | ad
  · have h0 : m = 0 := by
      rcases hc with h0 | ⟨_, _, e2, _⟩
      · exact h0
      · cases e2
    subst h0
    have : news = [] := List.eq_nil_of_length_eq_zero (by omega)
    subst this
    refine ⟨v, w, ?_, by simpa using hown, World.grownBy.refl w _⟩
    rcases hown.2 with ⟨rfl, rfl⟩ | ⟨g, cp, cur, rfl, _, _, hnc, _⟩
    · simp [Builtin.append_, run_underlying ht, sizeOf, typeInfo, hi, Builtin.lenOf, Builtin.firstCells]
    · simp [Builtin.append_, run_underlying ht, sizeOf, typeInfo, hi, Builtin.lenOf, Builtin.firstCells, hnc, storeCells]
  · obtain ⟨v', w', hrun, h2, h3, _, _⟩ := run_append_own_at (P := P) w base t ty e i z size bytes ht hi hz hsize hby hzs hsz v n xs hown ad m cap news hl (hcells ad rfl) h1 h63 hbytes hbase
    exact ⟨v', w', hrun, h2, h3⟩
theorem wp_app {t e : TypeId} {i : TypeInfo} {z : Value} {size bytes : Nat} (ht : P.underlying t = some (.slice e)) (hi : P.info? e = some i) (hz : i.zero = some z) (hsize : i.size = size) (hby : i.bytes = bytes)
    (hzs : z.cells.size = size) (hsz : 0 < size) {ops : Array Oper} {rest : List Oper} {o : Oper} {a : Act} {Q : Exit → Act → World → Prop} {w : World} (hgd : o.guard = none) (s x : Operand)
    (ho : o.op = .call { callee := .builtin .append, args := #[s, x], argTypes := #[t, t] }) (base : Nat) (v : Value) (n : Nat) (xs : List Value) (hs : a.eval s = v) (hown : w.ownsRow base e size v n xs)
    (u : Value) (m : Nat) (news : List Value) (hx : a.eval x = u) (hr : SR w u size m news)
    (h1 : ∀ y ∈ news, y.oneCell' = true) (h63 : n + m ≤ maxLen) (hbytes : (n + m) * bytes ≤ 140737488355328) (hbase : base ≤ w.heap.size)
    (h : ∀ v' w', w'.ownsRow base e size v' (n + m) (xs ++ news) → w.grownBy w' v.ownBlock → wpList P ops Q rest (a.put o.dst v') w') : wpList P ops Q (o :: rest) a w := by
  refine wpList_plain hgd fun K hK => ?_
  obtain ⟨v', w', hrun, h2, h3⟩ := run_app (P := P) (ty := o.type) ht hi hz hsize hby hzs hsz w base v n xs hown u m news hr h1 h63 hbytes hbase
  unfold Oper.wp execOp
  simp only [ho, resolve, invoke, builtin, Sem.run_bind, Sem.run_pure, Result.andThen_ok, List.map_toArray, List.map_cons, List.map_nil, hs, hx, hrun]
  exact hK _ _ (h v' w' h2 h3)
end
theorem owns_below {w w' : World} {base n size : Nat} {e : TypeId} {v : Value} {xs : List Value} (h : w.ownsRow base e size v n xs) (hb : Below w.heap.size w w') : w'.ownsRow base e size v n xs := by
  refine h.kept (row := none) ⟨hb.os, hb.tape, hb.output, hb.size, fun k hk _ => hb.block k hk⟩ ?_
  cases v.ownBlock with
  | none => exact .inl rfl
  | some k => exact .inr (by simp)
theorem below_drew' {B : Nat} {x y : World} (h : Below B x y) : Below B x y.drew := ⟨h.os, h.tape, h.output, h.size, h.block⟩
/-- cells of ints -/
def nCells (l : List Int) : List Value := l.map (Value.int .i64)
theorem nCells_length (l : List Int) : (nCells l).length = l.length := by simp [nCells]
theorem nCells_take (l : List Int) (k : Nat) : (nCells l).take (k * 1) = nCells (l.take k) := by simp [nCells, List.map_take]
/-- a slice of integers that came in -/
theorem SR.row {w : World} {a : Option Addr} {len cap : Nat} {zs : List Int} (h : RowOf .i64 w a len cap zs) : SR w (.slice a len cap) 1 len (nCells (zs.take len)) ∧ (zs.take len).length = len := by
  rcases h with ⟨rfl, rfl, rfl, rfl⟩ | ⟨⟨b, off, spot⟩, rfl, hl, hm, hz, hc, hw⟩
  · exact ⟨SR.nil_ w 1, rfl⟩
  · have hlen : (zs.take len).length = len := by rw [List.length_take]; omega
    refine ⟨⟨_, cap, rfl, hl, hm, by rw [nCells_length, hlen, Nat.mul_one], ?_⟩, hlen⟩
    rcases Nat.eq_zero_or_pos len with h0 | h0
    · exact .inl h0
    · right
      have c0 := hc 0 (by omega)
      have hs : spot = none := by
        have := World.cell?_spot c0
        simpa [Addr.add] using this
      subst hs
      have hb : b < w.heap.size := by
        have := World.block_lt_of_cell? w _ c0
        simpa [Addr.add] using this
      refine ⟨b, off, rfl, hb, fun j u hj => ?_⟩
      have hjl : j < len := by
        have := (List.getElem?_eq_some_iff.1 hj).1
        rw [nCells_length, hlen] at this
        exact this
      have hcj := hc j (by omega)
      rw [add_off] at hcj
      rw [hcj, ← hj]
      simp [nCells, List.getElem?_take, hjl, List.getD, show j < zs.length by omega]
/-- the cell of an integer -/
theorem SR.int {w : World} {a : Option Addr} {len cap : Nat} {l : List Int} (h : SR w (.slice a len cap) 1 len (nCells l)) (h0 : 0 < len) :
    ∃ b off, a = some ⟨b, off, none⟩ ∧ b < w.heap.size ∧ ∀ j, j < len → w.cell? ⟨b, off + j, none⟩ = some (.int .i64 (l.getD j 0)) := by
  obtain ⟨a', cap', he, h1, h2, h3, h4⟩ := h
  injection he with e1 _ e2
  subst e1 e2
  rcases h4 with h4 | ⟨b, off, rfl, hb, hc⟩
  · omega
  · refine ⟨b, off, rfl, hb, fun j hj => hc j _ ?_⟩
    have : j < l.length := by rw [nCells_length] at h3; omega
    simp [nCells, List.getD, this]
theorem SR.form {w : World} {v : Value} {size n : Nat} {xs : List Value} (h : SR w v size n xs) : ∃ a cap, v = .slice a n cap ∧ n ≤ cap ∧ cap ≤ maxLen := by
  obtain ⟨a, cap, e, h1, h2, _⟩ := h
  exact ⟨a, cap, e, h1, h2⟩
end Go.Proofs.Ytjaaddjbmimjoaa
/-
  Worlds in which the blocks below one stay as they were: for regions that call, load and draw. Of no program.
-/












namespace Go.Proofs.Ytjaaddjbmimjoaa
open Go.RowKit
set_option linter.unusedVariables false

/-- nothing of what was there has turned -/
def Stays (N : Nat) (w w' : World) : Prop := N ≤ w'.heap.size ∧ Below N w w'
theorem stays_of {N : Nat} {w w' : World} (h : N ≤ w.heap.size) (hb : Below w.heap.size w w') : Stays N w w' := ⟨Nat.le_trans h hb.size, hb.mono h⟩
theorem keeps_start {N : Nat} {w : World} (h : w.heap.size = N) : N ≤ w.drew.heap.size ∧ Below N w w.drew ∧ ∀ b o, b < N → w.drew.cell? ⟨b, o, none⟩ = w.cell? ⟨b, o, none⟩ :=
  ⟨by rw [← h]; exact Nat.le_refl _, below_drew' (Below.refl _ _), fun _ _ _ => rfl⟩
theorem keeps_next {N : Nat} {w w' w'' : World} {X : Prop} (h1 : N ≤ w'.heap.size ∧ Below N w w' ∧ X) (h : Stays N w' w'') : N ≤ w''.heap.size ∧ Below N w w'' ∧ ∀ b o, b < N → w''.cell? ⟨b, o, none⟩ = w.cell? ⟨b, o, none⟩ :=
  ⟨h.1, h1.2.1.trans h.2, fun b o hb => (h1.2.1.trans h.2).cell (p := ⟨b, o, none⟩) hb⟩
theorem keeps_alloc {N : Nat} {w w' : World} {X : Prop} {o : Obj} (h1 : N ≤ w'.heap.size ∧ Below N w w' ∧ X) : N ≤ (w'.alloc o).heap.size ∧ Below N w (w'.alloc o) ∧ ∀ b k, b < N → (w'.alloc o).cell? ⟨b, k, none⟩ = w.cell? ⟨b, k, none⟩ :=
  keeps_next h1 ⟨by simp; exact Nat.le_succ_of_le h1.1, (Below.refl _ _).alloc h1.1 _⟩
end Go.Proofs.Ytjaaddjbmimjoaa
