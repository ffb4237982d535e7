/-
  Several texts, laid together.
-/
import Derived.Test.YtadejhlljdcocaaMg1
import Derived.Laws.IdiomCopy
import Derived.Lib.Overlaps
import Derived.Deep.AppendLies
/-
  Rows of elements of several cells that are the call's own: copy within them, clear, what becomes of them. Of no program.
-/




namespace Go.Proofs.Ytadejhlljdcocaa
open Go.RowKit
set_option linter.unusedVariables false
set_option linter.unusedSimpArgs false

section
variable {P : Program}
/-- copy into a block of the call's own: the cells from o on become cs -/
theorem run_copy_own (w : World) (dT sT ty elem : TypeId) (size : Nat) (hu : P.underlying dT = some (.slice elem)) (hs : (P.info? elem).map (·.size) = some size)
    (b o dLen dCap : Nat) (e : TypeId) (cur : Array Value) (hb : w.heap[b]? = some (.cells cur e (0, 0)))
    (a : Addr) (sLen sCap : Nat) (cs : List Value) (k : Nat) (hk : Nat.min sLen dLen = k) (hn : cs.length = k * size) (hsrc : ∀ j v, cs[j]? = some v → w.cell? (a.add j) = some v)
    (hfit : o + cs.length ≤ cur.size) (h1 : ∀ v ∈ cs, v.oneCell' = true) :
    (Builtin.copy_ #[dT, sT] ty #[.slice (some ⟨b, o, none⟩) dLen dCap, .slice (some a) sLen sCap]).run P w = .ok (goInt k) (w.setRow b (cur.toList.take o ++ cs ++ cur.toList.drop (o + cs.length)).toArray) := by
  subst hk
  have hf := run_firstCells_some (P := P) w size (Nat.min sLen dLen) a sLen sCap cs hn hsrc
  have hst := run_storeCells_at P b o e cs 0 cur w hb (by simpa using hfit) h1
  simp only [Nat.add_zero] at hst
  cases hq : P.info? elem with
  | none => simp [hq] at hs
  | some i =>
    have hi : i.size = size := by simpa [hq] using hs
    simp [Builtin.copy_, run_underlying hu, Builtin.lenOf, sizeOf, typeInfo, hq, hi, hf, hst]
/-- clear of a part of a block of the call's own -/
theorem run_clear_own (w : World) (t e ty : TypeId) (z : Value) (ht : P.underlying t = some (.slice e)) (hv : ∀ w, (zeroValue e).run P w = .ok z w) (b o n c : Nat) (hn : 0 < n) (e' : TypeId) (cur : Array Value)
    (hb : w.heap[b]? = some (.cells cur e' (0, 0))) (zs : List Value) (hz : (Builtin.zeroCells z.cells n).toList = zs) (hfit : o + zs.length ≤ cur.size) (h1 : ∀ v ∈ zs, v.oneCell' = true) :
    (Builtin.clear_ #[t] ty #[.slice (some ⟨b, o, none⟩) n c]).run P w = .ok (.tuple #[]) (w.setRow b (cur.toList.take o ++ zs ++ cur.toList.drop (o + zs.length)).toArray) := by
  have hst := run_storeCells_at P b o e' zs 0 cur w hb (by simpa using hfit) h1
  simp only [Nat.add_zero] at hst
  obtain ⟨m, rfl⟩ : ∃ m, n = m + 1 := ⟨n - 1, by omega⟩
  simp [Builtin.clear_, run_underlying ht, hv, hz, hst]
end

theorem heap_size_setRow (w : World) (g : Nat) (cs : Array Value) : (w.setRow g cs).heap.size = w.heap.size := by simp
theorem grown_setRow {w w' : World} {row : Option Nat} {g : Nat} (h : w.grownBy w' row) (hg : row = some g ∨ w.heap.size ≤ g) (cs : Array Value) : w.grownBy (w'.setRow g cs) row := by
  refine ⟨h.os, h.tape, h.output, by simpa using h.size, fun k hk hr => ?_⟩
  rw [setRow_other _ _ _ _ (fun e => ?_)]
  · exact h.block k hk hr
  · subst e
    rcases hg with hg | hg
    · exact hr hg.symm
    · omega
theorem grown_setRow_drew {w : World} {g : Nat} {cs : Array Value} {row : Option Nat} (h : w.grownBy (w.setRow g cs) row) : w.grownBy (w.setRow g cs).drew row := ⟨h.os, h.tape, h.output, h.size, h.block⟩
/-- a row is a list of cells in its block -/
theorem own_of {w : World} {N g n cap size : Nat} {e : TypeId} {cur : Array Value} {xs : List Value} (hN : N ≤ g) (hg : w.heap[g]? = some (.cells cur e (0, 0))) (hnc : n ≤ cap) (hcm : cap ≤ maxLen) (hcs : cur.size = cap * size)
    (hx : xs.length = n * size) (ht : cur.toList.take (n * size) = xs) : w.ownsRow N e size (.slice (some ⟨g, 0, none⟩) n cap) n xs :=
  ⟨hx, .inr ⟨g, cap, cur, rfl, hN, hg, hnc, hcm, hcs, ht⟩⟩
theorem own_size {w : World} {base n size : Nat} {e : TypeId} {v : Value} {xs : List Value} (h : w.ownsRow base e size v n xs) {p : Nat} {e' : TypeId} {cs : Array Value} {fr : Nat × Nat} (hp : w.heap[p]? = some (.cells cs e' fr)) (hne : e' ≠ e) : v.ownBlock ≠ some p := by
  rcases h.2 with ⟨rfl, _⟩ | ⟨g, cap, cur, rfl, hb, hg, _⟩
  · intro he; cases he
  · intro he
    injection he with he
    simp only at he
    subst he
    rw [hg] at hp
    injection hp with hp
    injection hp with _ h2
    exact hne h2.symm
/-- a row stays where it is, or lies in a block that is new -/
def NewRow (w : World) (v v' : Value) : Prop := v'.ownBlock = v.ownBlock ∨ ∀ k, v'.ownBlock = some k → w.heap.size ≤ k
theorem newrow_new {w : World} {v : Value} {b n c : Nat} (h : w.heap.size ≤ b) : NewRow w v (.slice (some ⟨b, 0, none⟩) n c) := .inr fun k e => by cases e; exact h
theorem NewRow.trans {a b : World} {u v x : Value} (h : NewRow a u v) (g : NewRow b v x) (hs : a.heap.size ≤ b.heap.size) : NewRow a u x := by
  rcases g with g | g
  · rcases h with h | h
    · exact .inl (g.trans h)
    · exact .inr fun k e => h k (g.symm.trans e)
  · exact .inr fun k e => Nat.le_trans hs (g k e)
theorem obj_cell {w : World} {p : Nat} {v : Value} {t : TypeId} (h : w.heap[p]? = some (.cells #[v] t)) : w.cell? ⟨p, 0, none⟩ = some v := by simp [World.cell?, h]
theorem obj_frozen {w : World} {p : Nat} {v : Value} {t : TypeId} (h : w.heap[p]? = some (.cells #[v] t)) (o : Nat) : w.frozen? ⟨p, o, none⟩ = false := by simp [World.frozen?, h]
theorem grown_of_drew {w w' : World} {row : Option Nat} (h : w.drew.grownBy w' row) : w.grownBy w' row := ⟨h.os, h.tape, h.output, h.size, h.block⟩
theorem grown_below {w w' : World} (h : Below w.heap.size w w') (row : Option Nat) : w.grownBy w' row := ⟨h.os, h.tape, h.output, h.size, fun k hk _ => h.block k hk⟩
theorem grown_then {a b c : World} {row : Option Nat} (h : a.grownBy b row) (g : Below b.heap.size b c) : a.grownBy c row := ⟨g.os.trans h.os, g.tape.trans h.tape, g.output.trans h.output, Nat.le_trans h.size g.size, fun k hk hr => (g.block k (Nat.lt_of_lt_of_le hk h.size)).trans (h.block k hk hr)⟩

/-- an object of one cell at p, which leads to a row of its own: what a change of it leaves -/
structure OKept (w w' : World) (N p : Nat) (v v' : Value) : Prop where
  below : Below N w w'
  size : w.heap.size ≤ w'.heap.size
  block : ∀ k, k < w.heap.size → k ≠ p → some k ≠ v.ownBlock → w'.heap[k]? = w.heap[k]?
  new : NewRow w v v'
theorem OKept.refl (w : World) (N p : Nat) (v : Value) : OKept w w N p v v := ⟨Below.refl _ _, Nat.le_refl _, fun _ _ _ _ => rfl, .inl rfl⟩
theorem OKept.trans {a b c : World} {N p : Nat} {u v x : Value} (h : OKept a b N p u v) (g : OKept b c N p v x) : OKept a c N p u x := by
  refine ⟨h.below.trans g.below, Nat.le_trans h.size g.size, fun k hk hp hu => ?_, h.new.trans g.new h.size⟩
  refine (g.block k (Nat.lt_of_lt_of_le hk h.size) hp fun e => ?_).trans (h.block k hk hp hu)
  rcases h.new with hn | hn
  · exact hu (e.trans hn)
  · exact absurd (hn k e.symm) (by omega)
theorem OKept.of_below {w w' : World} {N p : Nat} {v : Value} (h : Below w.heap.size w w') (hN : N ≤ w.heap.size) : OKept w w' N p v v := ⟨h.mono hN, h.size, fun k hk _ _ => h.block k hk, .inl rfl⟩
/-- a slice whose block is neither the object's nor its row's reads as it did -/
def Apart (mv ov : Value) (p : Nat) : Prop := ∀ b, mv.ownBlock = some b → b ≠ p ∧ some b ≠ ov.ownBlock
theorem sr_kept {w w' : World} {N p size n : Nat} {mv v v' : Value} {xs : List Value} (h : SR w mv size n xs) (ha : Apart mv v p) (hk : OKept w w' N p v v') : SR w' mv size n xs := by
  obtain ⟨a, cap, rfl, h1, h2, h3, h4⟩ := h
  refine ⟨a, cap, rfl, h1, h2, h3, h4.imp id ?_⟩
  rintro ⟨b, off, rfl, hb, hc⟩
  obtain ⟨n1, n2⟩ := ha b rfl
  refine ⟨b, off, rfl, Nat.lt_of_lt_of_le hb hk.size, fun j u hj => ?_⟩
  have := hk.block b hb n1 n2
  have hcu := hc j u hj
  simp only [World.cell?] at hcu ⊢
  rw [this]
  exact hcu
theorem apart_kept {w w' : World} {N p : Nat} {mv v v' : Value} (ha : Apart mv v p) (hb : ∀ b, mv.ownBlock = some b → b < w.heap.size) (hk : OKept w w' N p v v') : Apart mv v' p := by
  intro b e
  obtain ⟨n1, n2⟩ := ha b e
  refine ⟨n1, fun e2 => ?_⟩
  rcases hk.new with hn | hn
  · exact n2 (e2.trans hn)
  · exact absurd (hn b e2.symm) (by have := hb b e; omega)
end Go.Proofs.Ytadejhlljdcocaa
/-
  Items by their blocks, as plain lists: where a block's is, what is laid, what goes. Of no program.
-/

namespace Go.Proofs.Ytadejhlljdcocaa
open Go.RowKit
set_option linter.unusedVariables false
set_option linter.unusedSimpArgs false

/-- an item of a block -/
structure HI where
  b : Int
  v : Int
  d : ByteArray
instance : Inhabited HI := ⟨⟨0, 0, ⟨#[]⟩⟩⟩
/-- its cells -/
def HI.cs (h : HI) : List Value := [.int .i64 h.b, .int .u64 h.v, .string h.d]
def hCells : List HI → List Value
  | [] => []
  | h :: t => .int .i64 h.b :: .int .u64 h.v :: .string h.d :: hCells t
theorem hCells_length (l : List HI) : (hCells l).length = l.length * 3 := by
  induction l with
  | nil => rfl
  | cons h t ih => simp only [hCells, List.length_cons, ih]; omega
theorem hCells_append (a b : List HI) : hCells (a ++ b) = hCells a ++ hCells b := by
  induction a with
  | nil => rfl
  | cons h t ih => simp only [hCells, List.cons_append, ih]
theorem hCells_one (l : List HI) : ∀ y ∈ hCells l, y.oneCell' = true := by
  induction l with
  | nil => intro y hy; cases hy
  | cons h t ih =>
    intro y hy
    simp only [hCells, List.mem_cons] at hy
    rcases hy with rfl | rfl | rfl | hy
    · rfl
    · rfl
    · rfl
    · exact ih y hy
theorem hCells_take (l : List HI) (k : Nat) : (hCells l).take (k * 3) = hCells (l.take k) := by
  induction l generalizing k with
  | nil => simp [hCells]
  | cons h t ih =>
    cases k with
    | zero => rfl
    | succ k => rw [show (k + 1) * 3 = k * 3 + 1 + 1 + 1 by omega]; simp only [hCells, List.take_succ_cons, ih]
theorem hCells_drop (l : List HI) (k : Nat) : (hCells l).drop (k * 3) = hCells (l.drop k) := by
  induction l generalizing k with
  | nil => simp [hCells]
  | cons h t ih =>
    cases k with
    | zero => rfl
    | succ k => rw [show (k + 1) * 3 = k * 3 + 1 + 1 + 1 by omega]; simp only [hCells, List.drop_succ_cons, ih]
theorem hCells_at (l : List HI) (k : Nat) (x : HI) (hx : l[k]? = some x) : (hCells l)[k * 3]? = some (.int .i64 x.b) ∧ (hCells l)[k * 3 + 1]? = some (.int .u64 x.v) ∧ (hCells l)[k * 3 + 2]? = some (.string x.d) := by
  induction l generalizing k with
  | nil => simp at hx
  | cons h t ih =>
    cases k with
    | zero => simp at hx; subst hx; exact ⟨rfl, rfl, rfl⟩
    | succ k =>
      have := ih k (by simpa using hx)
      rw [show (k + 1) * 3 = k * 3 + 3 by omega]
      simpa [hCells] using this
/-- the cells of the element at k, in a world -/
theorem sr_held {w : World} {a : Option Addr} {len cap : Nat} {l : List HI} (h : SR w (.slice a len cap) 3 len (hCells l)) (k : Nat) (x : HI) (hx : l[k]? = some x) :
    ∃ b off, a = some ⟨b, off, none⟩ ∧ b < w.heap.size ∧ w.cell? ⟨b, off + k * 3, none⟩ = some (.int .i64 x.b) ∧ w.cell? ⟨b, off + k * 3 + 1, none⟩ = some (.int .u64 x.v) ∧ w.cell? ⟨b, off + k * 3 + 2, none⟩ = some (.string x.d) := by
  obtain ⟨a', cap', he, h1, h2, h3, h4⟩ := h
  injection he with e1 _ e2
  subst e1 e2
  have hk := (List.getElem?_eq_some_iff.1 hx).1
  have hl : l.length = len := by rw [hCells_length] at h3; omega
  rcases h4 with h4 | ⟨b, off, rfl, hb, hc⟩
  · omega
  · obtain ⟨c0, c1, c2⟩ := hCells_at l k x hx
    exact ⟨b, off, rfl, hb, hc _ _ c0, by have := hc _ _ c1; rwa [← Nat.add_assoc] at this, by have := hc _ _ c2; rwa [← Nat.add_assoc] at this⟩
/-- the same with one block for all -/
theorem sr_block_held {w : World} {a : Option Addr} {len cap : Nat} {l : List HI} (h : SR w (.slice a len cap) 3 len (hCells l)) (h0 : 0 < len) :
    ∃ b off, a = some ⟨b, off, none⟩ ∧ b < w.heap.size ∧ l.length = len ∧ ∀ k x, l[k]? = some x → w.cell? ⟨b, off + k * 3, none⟩ = some (.int .i64 x.b) ∧ w.cell? ⟨b, off + k * 3 + 1, none⟩ = some (.int .u64 x.v) ∧ w.cell? ⟨b, off + k * 3 + 2, none⟩ = some (.string x.d) := by
  obtain ⟨a', cap', he, h1, h2, h3, h4⟩ := h
  injection he with e1 _ e2
  subst e1 e2
  have hl : l.length = len := by rw [hCells_length] at h3; omega
  rcases h4 with h4 | ⟨b, off, rfl, hb, hc⟩
  · omega
  · refine ⟨b, off, rfl, hb, hl, fun k x hx => ?_⟩
    obtain ⟨c0, c1, c2⟩ := hCells_at l k x hx
    exact ⟨hc _ _ c0, by have := hc _ _ c1; rwa [← Nat.add_assoc] at this, by have := hc _ _ c2; rwa [← Nat.add_assoc] at this⟩

/-- an item that may lie in a set -/
def Good (h : HI) : Prop := 0 ≤ h.b ∧ h.b < 64 ∧ (Lit.int .u64 h.v).wf = true ∧ h.d.size ≤ 40
/-- in order, each block once -/
structure Srt (l : List HI) : Prop where
  pw : l.Pairwise (fun x y => x.b < y.b)
  all : ∀ h ∈ l, Good h
theorem Srt.nil : Srt [] := ⟨List.Pairwise.nil, by simp⟩
theorem srt_len' : ∀ (l : List HI) (k : Int), l.Pairwise (fun x y => x.b < y.b) → (∀ h ∈ l, k ≤ h.b ∧ h.b < 64) → (l.length : Int) ≤ max 0 (64 - k)
  | [], k, _, _ => by simp; omega
  | h :: t, k, hp, ha => by
    rw [List.pairwise_cons] at hp
    have h1 := ha h (by simp)
    have := srt_len' t (h.b + 1) hp.2 (fun x hx => ⟨by have := hp.1 x hx; omega, (ha x (by simp [hx])).2⟩)
    simp only [List.length_cons]
    omega
theorem Srt.len {l : List HI} (h : Srt l) : l.length ≤ 64 := by
  have := srt_len' l 0 h.pw (fun x hx => ⟨(h.all x hx).1, (h.all x hx).2.1⟩)
  omega

/-- a block's item -/
def getL (l : List HI) (b : Int) : Option HI := l.find? (fun h => h.b == b)
/-- with an item, if there is none of its block, or an elder one -/
def layL : List HI → HI → List HI
  | [], x => [x]
  | h :: t, x => if h.b < x.b then h :: layL t x else if h.b = x.b then (if h.v < x.v then x :: t else h :: t) else x :: h :: t
/-- is it laid? -/
def laysL (l : List HI) (x : HI) : Bool := match getL l x.b with | none => true | some h => decide (h.v < x.v)
/-- without a block's item, if it is not newer -/
def dropL (l : List HI) (b v : Int) : List HI := l.filter (fun h => !(h.b == b && decide (h.v ≤ v)))
def dropsL (l : List HI) (b v : Int) : Bool := match getL l b with | none => false | some h => decide (h.v ≤ v)

/-- where a block's place is -/
inductive Split (l : List HI) (b : Int) : Prop
  | no (A B : List HI) (e : l = A ++ B) (hA : ∀ h ∈ A, h.b < b) (hB : ∀ h ∈ B, b < h.b)
  | yes (A : List HI) (x : HI) (B : List HI) (e : l = A ++ x :: B) (hx : x.b = b) (hA : ∀ h ∈ A, h.b < b) (hB : ∀ h ∈ B, b < h.b)
theorem split_of (l : List HI) (b : Int) (hp : l.Pairwise (fun x y => x.b < y.b)) : Split l b := by
  induction l with
  | nil => exact .no [] [] rfl (by simp) (by simp)
  | cons h t ih =>
    rw [List.pairwise_cons] at hp
    by_cases h1 : h.b < b
    · cases ih hp.2 with
      | no A B e hA hB => exact .no (h :: A) B (by rw [e]; rfl) (fun y hy => by rcases List.mem_cons.1 hy with rfl | hy; exact h1; exact hA y hy) hB
      | yes A x B e hx hA hB => exact .yes (h :: A) x B (by rw [e]; rfl) hx (fun y hy => by rcases List.mem_cons.1 hy with rfl | hy; exact h1; exact hA y hy) hB
    · by_cases h2 : h.b = b
      · exact .yes [] h t rfl h2 (by simp) (fun y hy => by have := hp.1 y hy; omega)
      · exact .no [] (h :: t) rfl (by simp) (fun y hy => by rcases List.mem_cons.1 hy with rfl | hy; omega; have := hp.1 y hy; omega)
theorem getL_no {A B : List HI} {b : Int} (hA : ∀ h ∈ A, h.b < b) (hB : ∀ h ∈ B, b < h.b) : getL (A ++ B) b = none := by
  unfold getL
  rw [List.find?_eq_none]
  intro x hx
  simp only [beq_iff_eq]
  rcases List.mem_append.1 hx with h | h
  · have := hA x h; omega
  · have := hB x h; omega
theorem getL_yes {A B : List HI} {x : HI} {b : Int} (hA : ∀ h ∈ A, h.b < b) (hx : x.b = b) : getL (A ++ x :: B) b = some x := by
  unfold getL
  rw [List.find?_append, List.find?_eq_none.2 (fun y hy => by have := hA y hy; simp; omega)]
  simp [hx]
theorem layL_no {A B : List HI} {x : HI} (hA : ∀ h ∈ A, h.b < x.b) (hB : ∀ h ∈ B, x.b < h.b) : layL (A ++ B) x = A ++ x :: B := by
  induction A with
  | nil =>
    cases B with
    | nil => rfl
    | cons y t =>
      have := hB y (by simp)
      simp only [List.nil_append, layL, if_neg (show ¬ y.b < x.b by omega), if_neg (show ¬ y.b = x.b by omega)]
  | cons y t ih =>
    have := hA y (by simp)
    simp only [List.cons_append, layL, if_pos this, ih (fun h hh => hA h (by simp [hh]))]
theorem layL_yes {A B : List HI} {x y : HI} (hA : ∀ h ∈ A, h.b < x.b) (hy : y.b = x.b) : layL (A ++ y :: B) x = A ++ (if y.v < x.v then x else y) :: B := by
  induction A with
  | nil =>
    simp only [List.nil_append, layL, if_neg (show ¬ y.b < x.b by omega), if_pos hy]
    split <;> rfl
  | cons z t ih =>
    have := hA z (by simp)
    simp only [List.cons_append, layL, if_pos this, ih (fun h hh => hA h (by simp [hh]))]
theorem laysL_no {A B : List HI} {x : HI} (hA : ∀ h ∈ A, h.b < x.b) (hB : ∀ h ∈ B, x.b < h.b) : laysL (A ++ B) x = true := by rw [laysL, getL_no hA hB]
theorem laysL_yes {A B : List HI} {x y : HI} (hA : ∀ h ∈ A, h.b < x.b) (hy : y.b = x.b) : laysL (A ++ y :: B) x = decide (y.v < x.v) := by rw [laysL, getL_yes hA hy]
theorem dropL_none {l : List HI} {b v : Int} (h : ∀ x ∈ l, x.b ≠ b) : dropL l b v = l := by
  unfold dropL
  rw [List.filter_eq_self]
  intro x hx
  have := h x hx
  simp [this]
theorem dropL_no {A B : List HI} {b v : Int} (hA : ∀ h ∈ A, h.b < b) (hB : ∀ h ∈ B, b < h.b) : dropL (A ++ B) b v = A ++ B :=
  dropL_none fun x hx => by
    rcases List.mem_append.1 hx with h | h
    · have := hA x h; omega
    · have := hB x h; omega
theorem dropL_yes {A B : List HI} {x : HI} {b v : Int} (hA : ∀ h ∈ A, h.b < b) (hB : ∀ h ∈ B, b < h.b) (hx : x.b = b) : dropL (A ++ x :: B) b v = if x.v ≤ v then A ++ B else A ++ x :: B := by
  have h1 : dropL A b v = A := dropL_none fun x hx => by have := hA x hx; omega
  have h2 : dropL B b v = B := dropL_none fun x hx => by have := hB x hx; omega
  unfold dropL at *
  rw [List.filter_append, List.filter_cons, h1, h2, hx]
  by_cases h : x.v ≤ v <;> simp [h]
theorem dropsL_no {A B : List HI} {b v : Int} (hA : ∀ h ∈ A, h.b < b) (hB : ∀ h ∈ B, b < h.b) : dropsL (A ++ B) b v = false := by rw [dropsL, getL_no hA hB]
theorem dropsL_yes {A B : List HI} {x : HI} {b v : Int} (hA : ∀ h ∈ A, h.b < b) (hx : x.b = b) : dropsL (A ++ x :: B) b v = decide (x.v ≤ v) := by rw [dropsL, getL_yes hA hx]
theorem srt_parts {A B : List HI} {y : HI} (hp : (A ++ y :: B).Pairwise (fun x y => x.b < y.b)) : (∀ h ∈ A, h.b < y.b) ∧ (∀ h ∈ B, y.b < h.b) ∧ A.Pairwise (fun x y => x.b < y.b) ∧ B.Pairwise (fun x y => x.b < y.b) := by
  rw [List.pairwise_append, List.pairwise_cons] at hp
  exact ⟨fun h hh => hp.2.2 h hh y (by simp), hp.2.1.1, hp.1, hp.2.1.2⟩
theorem pw_put {A B : List HI} {x : HI} (hA : ∀ h ∈ A, h.b < x.b) (hB : ∀ h ∈ B, x.b < h.b) (pA : A.Pairwise (fun x y => x.b < y.b)) (pB : B.Pairwise (fun x y => x.b < y.b)) : (A ++ x :: B).Pairwise (fun x y => x.b < y.b) := by
  rw [List.pairwise_append, List.pairwise_cons]
  refine ⟨pA, ⟨hB, pB⟩, fun a ha b hb => ?_⟩
  rcases List.mem_cons.1 hb with rfl | hb
  · exact hA a ha
  · have := hA a ha; have := hB b hb; omega
theorem Srt.lay {l : List HI} {x : HI} (h : Srt l) (hx : Good x) : Srt (layL l x) := by
  cases split_of l x.b h.pw with
  | no A B e hA hB =>
    have hp := h.pw; have ha := h.all
    rw [e] at hp ha ⊢
    rw [layL_no hA hB]
    rw [List.pairwise_append] at hp
    refine ⟨pw_put hA hB hp.1 hp.2.1, fun y hy => ?_⟩
    rcases List.mem_append.1 hy with h | h
    · exact ha y (by simp [h])
    · rcases List.mem_cons.1 h with rfl | h
      · exact hx
      · exact ha y (by simp [h])
  | yes A y B e hy hA hB =>
    have hp := h.pw; have ha := h.all
    rw [e] at hp ha ⊢
    obtain ⟨_, _, pA, pB⟩ := srt_parts hp
    rw [layL_yes hA hy]
    refine ⟨pw_put (by split <;> first | exact hA | (rw [hy]; exact hA)) (by split <;> first | exact hB | (rw [hy]; exact hB)) pA pB, fun z hz => ?_⟩
    rcases List.mem_append.1 hz with h | h
    · exact ha z (by simp [h])
    · rcases List.mem_cons.1 h with h | h
      · subst h
        split
        · exact hx
        · exact ha y (by simp)
      · exact ha z (by simp [h])
theorem Srt.filter {l : List HI} (h : Srt l) (p : HI → Bool) : Srt (l.filter p) := ⟨h.pw.filter p, fun x hx => h.all x (List.mem_filter.1 hx).1⟩
theorem Srt.drop {l : List HI} (h : Srt l) (b v : Int) : Srt (dropL l b v) := h.filter _
end Go.Proofs.Ytadejhlljdcocaa
/-
  items: find: where a block's item is.
-/

namespace Go.Proofs.Ytadejhlljdcocaa
open Go.RowKit
set_option linter.unusedVariables false
set_option linter.unusedSimpArgs false

def cmpI (x y : Int) : Int := if x < y then -1 else if y < x then 1 else 0
theorem nan_int (x : Int) (w : World) : Calls Try.prog 159 #[.int .i64 x] w fun e w' => e = .returned (.bool false) ∧ w = w' := by
  go_enter Try.func159, Try.ntmps159
  go_wp2_with fail
  go_ret
  exact ⟨by simp, rfl⟩
theorem compare_int (x y : Int) (w : World) : Calls Try.prog 120 #[.int .i64 x, .int .i64 y] w fun e w' => e = .returned (.int .i64 (cmpI x y)) ∧ w = w' := by
  unfold cmpI
  have c1 := nan_int x
  have c2 := nan_int y
  by_cases h1 : x < y
  · have h2 : ¬ y < x := by omega
    rw [if_pos h1]
    go_enter Try.func120, Try.ntmps120
    go_wp2_with fail
    refine Calls.mono (c1 _) ?_
    rintro e w1 ⟨rfl, rfl⟩
    go_wp2_with fail
    refine Calls.mono (c2 _) ?_
    rintro e w1 ⟨rfl, rfl⟩
    go_wp2_with fail
    go_ret
    exact ⟨rfl, rfl⟩
  · rw [if_neg h1]
    by_cases h2 : y < x
    · rw [if_pos h2]
      go_enter Try.func120, Try.ntmps120
      go_wp2_with fail
      refine Calls.mono (c1 _) ?_
      rintro e w1 ⟨rfl, rfl⟩
      go_wp2_with fail
      refine Calls.mono (c2 _) ?_
      rintro e w1 ⟨rfl, rfl⟩
      go_wp2_with fail
      go_ret
      exact ⟨rfl, rfl⟩
    · rw [if_neg h2]
      go_enter Try.func120, Try.ntmps120
      go_wp2_with fail
      refine Calls.mono (c1 _) ?_
      rintro e w1 ⟨rfl, rfl⟩
      go_wp2_with fail
      refine Calls.mono (c2 _) ?_
      rintro e w1 ⟨rfl, rfl⟩
      go_wp2_with fail
      go_ret
      exact ⟨rfl, rfl⟩
theorem find_clos (h : HI) (b : Int) (w : World) : Calls Try.prog 183 #[.agg #[.int .i64 h.b, .int .u64 h.v, .string h.d], .int .i64 b] w fun e w' => e = .returned (.int .i64 (cmpI h.b b)) ∧ Below w.heap.size w w' := by
  go_enter Try.func183, Try.ntmps183
  go_wp2_with fail
  refine Calls.mono (compare_int h.b b _) ?_
  rintro e w1 ⟨rfl, rfl⟩
  go_wp2_with fail
  go_ret
  exact ⟨rfl, by go_grown⟩
theorem cmpI_lt {x y : Int} : cmpI x y < 0 ↔ x < y := by unfold cmpI; split <;> (try split) <;> omega
theorem cmpI_eq {x y : Int} : cmpI x y = 0 ↔ x = y := by unfold cmpI; split <;> (try split) <;> omega
set_option maxHeartbeats 1600000 in
set_option maxRecDepth 100000 in
/-- slices.BinarySearchFunc with find's own comparison, of a list of which the first n lie ahead of the block -/
theorem search_any (l : List HI) (b : Int) (n : Nat) (hn : n ≤ l.length) (hA : ∀ h ∈ l.take n, h.b < b) (hB : ∀ h ∈ l.drop n, b ≤ h.b) (w : World) (v : Value) (hv : SR w v 3 l.length (hCells l)) (hl : l.length ≤ 1000000) :
    Calls Try.prog 182 #[v, .int .i64 b, .func (.func 183) #[] #[]] w fun e w' =>
      e = .returned (.tuple #[.int .i64 n, .bool (decide (n < l.length) && decide (l[n]!.b = b))]) ∧ Below w.heap.size w w' := by
  obtain ⟨a, cap, rfl, hlc, hcm⟩ := hv.form
  unfold maxLen at hcm
  have eg : ∀ args w, (callFunc 183 args).run Try.prog w = .ok (.enter 183 args) w := fun _ _ => by rfl
  have HV := Lib.hid hv
  have hA' : ∀ t, t < n → l[t]!.b < b := fun t ht => by
    have ht2 : t < l.length := by omega
    rw [getElem!_pos l t ht2]
    exact hA _ (List.mem_take_iff_getElem.2 ⟨t, by omega, rfl⟩)
  have hB' : ∀ t, n ≤ t → t < l.length → b ≤ l[t]!.b := fun t h1 h2 => by
    rw [getElem!_pos l t h2]
    refine hB _ (List.mem_drop_iff_getElem.2 ⟨t - n, by omega, ?_⟩)
    congr 1
    omega
  have HA := Lib.hid hA'
  have HB := Lib.hid hB'
  obtain ⟨fin, hfin⟩ : ∃ fin, (decide (n < l.length) && decide (l[n]!.b = b)) = fin := ⟨_, rfl⟩
  rw [hfin]
  have FIN := Lib.hid hfin
  clear hv hA hB hA' hB' hfin
  go_enter Try.func182, Try.ntmps182
  go_wp2_with fail
  go_loopw [9, 10] (fun s9 s10 wr => ∃ lo hi : Nat, s9 = .int .i64 lo ∧ s10 = .int .i64 hi ∧ lo ≤ n ∧ n ≤ hi ∧ hi ≤ l.length ∧ Below w.heap.size w wr) (fun s9 s10 _ => (intOf s10).toNat - (intOf s9).toNat)
  case atStart => exact ⟨0, l.length, rfl, rfl, by omega, hn, Nat.le_refl _, Below.refl _ _⟩
  case round =>
    obtain ⟨lo, hi, rfl, rfl, hlo, hhi, hhl, hb⟩ := hrel
    have HBr := Lib.hid hb
    have hsr := HV.out.below hb
    clear hb
    by_cases hlt : lo < hi
    · obtain ⟨blk, off, rfl, hblk, -, hc⟩ := sr_block_held hsr (by omega)
      obtain ⟨x, hx⟩ : ∃ x, l[(lo + hi) / 2]? = some x := ⟨_, List.getElem?_eq_getElem (by omega)⟩
      obtain ⟨c0, c1, c2⟩ := hc _ _ hx
      have hxx : l[(lo + hi) / 2]! = x := by rw [getElem!_pos l _ (by omega)]; rw [List.getElem?_eq_getElem (by omega)] at hx; exact Option.some.inj hx
      have HX := Lib.hid hxx
      clear hc hx hxx hsr
      have hcl := fun w => find_clos x b w
      by_cases hyx : cmpI x.b b < 0
      · have hq : (lo + hi) / 2 < n := by
          rcases Nat.lt_or_ge ((lo + hi) / 2) n with h | h
          · exact h
          · have := HB.out _ h (by omega)
            rw [HX.out] at this
            rw [cmpI_lt] at hyx
            omega
        go_wp2_with fail
        refine Calls.mono (hcl _) ?_
        rintro e w' ⟨rfl, hb2⟩
        have HB2 := Lib.hid hb2
        clear hb2
        go_wp2_with fail
        go_roundw
        case rel => exact ⟨(lo + hi) / 2 + 1, hi, by go_num, rfl, by omega, hhi, hhl, HBr.out.trans (HB2.out.mono HBr.out.size)⟩
        case measure => simp [intOf]; omega
      · have hq : n ≤ (lo + hi) / 2 := by
          rcases Nat.lt_or_ge ((lo + hi) / 2) n with h | h
          · have := HA.out _ h
            rw [HX.out] at this
            rw [cmpI_lt] at hyx
            omega
          · exact h
        go_wp2_with fail
        refine Calls.mono (hcl _) ?_
        rintro e w' ⟨rfl, hb2⟩
        have HB2 := Lib.hid hb2
        clear hb2
        go_wp2_with fail
        go_roundw
        case rel => exact ⟨lo, (lo + hi) / 2, rfl, by go_num, by omega, by omega, by omega, HBr.out.trans (HB2.out.mono HBr.out.size)⟩
        case measure => simp [intOf]; omega
    · obtain rfl : lo = n := by omega
      obtain rfl : hi = lo := by omega
      by_cases hin : hi < l.length
      · obtain ⟨blk, off, rfl, hblk, -, hc⟩ := sr_block_held hsr (by omega)
        obtain ⟨x, hx⟩ : ∃ x, l[hi]? = some x := ⟨_, List.getElem?_eq_getElem (by omega)⟩
        obtain ⟨c0, c1, c2⟩ := hc _ _ hx
        have hxx : l[hi]! = x := by rw [getElem!_pos l _ (by omega)]; rw [List.getElem?_eq_getElem (by omega)] at hx; exact Option.some.inj hx
        have HX := Lib.hid hxx
        clear hc hx hxx hsr
        have hcl := fun w => find_clos x b w
        have hf : fin = (cmpI x.b b == 0) := by rw [← FIN.out, HX.out, Bool.eq_iff_iff]; simp [hin, cmpI_eq]
        subst hf
        go_wp2_with fail
        refine Calls.mono (hcl _) ?_
        rintro e w' ⟨rfl, hb2⟩
        have HB2 := Lib.hid hb2
        clear hb2
        go_wp2_with fail
        go_returns
        exact ⟨rfl, HBr.out.trans (HB2.out.mono HBr.out.size)⟩
      · have hf : fin = false := by rw [← FIN.out]; simp [hin]
        subst hf
        go_wp2_with fail
        go_returns
        exact ⟨rfl, HBr.out⟩
end Go.Proofs.Ytadejhlljdcocaa
