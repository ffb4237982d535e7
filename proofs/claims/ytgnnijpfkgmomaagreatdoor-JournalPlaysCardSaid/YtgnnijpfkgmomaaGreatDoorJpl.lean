/-
  JournalPlays: what its loop keeps.
-/
import Derived.Test.YtgnnijpfkgmomaaGreatDoorJlx
import Derived.Test.YtgnnijpfkgmomaaGreatDoorJls
namespace Go.Proofs.YtgnnijpfkgmomaaGreatDoor
open Go.RowKit
set_option linter.unusedVariables false
set_option linter.unusedSimpArgs false

def okV (l : List JP) : Prop := ∀ x ∈ l, x.k.size = 2 ∧ 1 ≤ x.v.size ∧ x.v.size ≤ 64
theorem okV.small {l : List JP} (h : okV l) : smallP l := fun x hx => ⟨by have := h x hx; omega, by have := h x hx; omega⟩
theorem okV_set {l : List JP} (h : okV l) {k v : ByteArray} (hk : k.size = 2) (h1 : 1 ≤ v.size) (h2 : v.size ≤ 64) : okV (setK l k v) := by
  intro x hx
  rcases List.mem_append.1 hx with hx | hx
  · exact h x (List.mem_filter.1 hx).1
  · rcases List.mem_cons.1 hx with rfl | hx
    · exact ⟨hk, h1, h2⟩
    · exact h x (List.mem_filter.1 hx).1
theorem okV_cut {l : List JP} (h : okV l) (k : ByteArray) : okV (cutK l k) := by
  intro x hx
  rcases List.mem_append.1 hx with hx | hx
  · exact h x (List.mem_filter.1 hx).1
  · exact h x (List.mem_filter.1 hx).1
theorem okV_bytes : ∀ {l : List JP}, okV l → bytesP l = sizeJ l
  | [], _ => rfl
  | p :: l, h => by
    have hp := h p (List.mem_cons_self ..)
    have hl := okV_bytes (l := l) (fun x hx => h x (List.mem_cons_of_mem _ hx))
    rw [sizeJ_cons, bytesP, hl, recS_exact p (by omega) (by omega) hp.2.1 (by omega)]
structure PlyR (w wr : World) (n p q i : Nat) (pv lv sv nv uv : Value) (S : List ByteArray) (a b last : ByteArray) (s : DS) (os : List JO) : Prop where
  jx : JX wr w.heap.size p q pv lv sv S a b last s os
  n_ : s.n = n
  top : s.top ≤ 2 * i
  later : lenJ os ≤ 100 * i
  mnow : MRow wr w.heap.size pv nv (nowJ s os)
  msure : MRow wr w.heap.size pv uv (nowJ s [])
  vals : okV (nowJ s os)
  vals2 : okV (nowJ s [])
  below : Below w.heap.size w wr
/-- the same, whatever the row's address -/
def PlyE (w wr : World) (n q i : Nat) (p : Nat) (nv uv : Value) : Prop := ∃ pv lv sv S a b last s os, PlyR w wr n p q i pv lv sv nv uv S a b last s os
theorem MRow.below {w w' : World} {N : Nat} {pv mv : Value} {l : List JP} (h : MRow w N pv mv l) (hb : Below w.heap.size w w') : MRow w' N pv mv l := ⟨owns_below h.1 hb, h.2⟩
theorem PlyR.below' {w wr wz : World} {n p q i : Nat} {pv lv sv nv uv : Value} {S : List ByteArray} {a b last : ByteArray} {s : DS} {os : List JO} (h : PlyR w wr n p q i pv lv sv nv uv S a b last s os) (hb : Below wr.heap.size wr wz) : PlyR w wz n p q i pv lv sv nv uv S a b last s os :=
  ⟨h.jx.below hb, h.n_, h.top, h.later, h.mnow.below hb, h.msure.below hb, h.vals, h.vals2, h.below.trans (hb.mono h.below.size)⟩
theorem own_mono7 {w : World} {base base' n size : Nat} {e : TypeId} {v : Value} {xs : List Value} (h : w.ownsRow base e size v n xs) (hb : base' ≤ base) : w.ownsRow base' e size v n xs := by
  refine ⟨h.1, h.2.imp id ?_⟩
  rintro ⟨g, cap, cur, e1, hg, r⟩
  exact ⟨g, cap, cur, e1, Nat.le_trans hb hg, r⟩
/-- a row in new blocks is none of the journal's -/
theorem mrow_new {w : World} {N base : Nat} {pv mv : Value} {l : List JP} (h : w.ownsRow base 43 2 mv l.length (pCells l)) (hN : N ≤ base) (hp : ∀ k, pv.ownBlock = some k → k < base) : MRow w N pv mv l := by
  refine ⟨own_mono7 h hN, ?_⟩
  cases hm : mv.ownBlock with
  | none => exact .inl rfl
  | some k =>
    refine .inr fun e => ?_
    have h1 := hp k e.symm
    have h2 := (h.lt k hm).1
    omega
theorem PlyR.pvlt {w wr : World} {n p q i : Nat} {pv lv sv nv uv : Value} {S : List ByteArray} {a b last : ByteArray} {s : DS} {os : List JO} (h : PlyR w wr n p q i pv lv sv nv uv S a b last s os) : ∀ k, pv.ownBlock = some k → k < wr.heap.size := fun k hk => (h.jx.jm.2.2.lt k hk).2
/-- rows of a journal that was keep, beside one that has been opened since -/
theorem mrow_open {w w' : World} {N : Nat} {pv pv' mv : Value} {l : List JP} (h : MRow w N pv mv l) (hb : Below w.heap.size w w') (hn : ∀ k, pv'.ownBlock = some k → w.heap.size ≤ k) : MRow w' N pv' mv l := by
  refine ⟨owns_below h.1 hb, ?_⟩
  cases hm : mv.ownBlock with
  | none => exact .inl rfl
  | some k =>
    refine .inr fun e => ?_
    have h1 := hn k e.symm
    have h2 := (h.1.lt k hm).2
    omega
/-- what begins as a key's first byte does -/
theorem ext_one (k : ByteArray) (h : 1 ≤ k.size) : ∃ c, (k.extract 0 1).data.toList = [c] ∧ k.data.toList.head? = some c := by
  have e : (k.extract 0 1).data.toList = (k.data.toList.drop 0).take (1 - 0) := Lib.extract_data k 0 1
  have hl : k.data.toList.length = k.size := rfl
  rw [e, List.drop_zero]
  cases hk : k.data.toList with
  | nil => rw [hk] at hl; simp at hl; omega
  | cons c r => exact ⟨c, rfl, rfl⟩
theorem pre_ext (p : JP) (k : ByteArray) (h1 : 1 ≤ p.k.size) (h2 : 1 ≤ k.size) : preJ (k.extract 0 1) p = decide (p.k.extract 0 1 = k.extract 0 1) := by
  obtain ⟨c, e1, e2⟩ := ext_one k h2
  obtain ⟨d, e3, e4⟩ := ext_one p.k h1
  unfold preJ
  rw [e1]
  cases hp : p.k.data.toList with
  | nil => rw [hp] at e4; cases e4
  | cons x r =>
    rw [hp] at e4
    injection e4 with e4
    subst e4
    show List.isPrefixOf [c] (x :: r) = _
    have : decide (p.k.extract 0 1 = k.extract 0 1) = decide (x = c) := by
      congr 1
      apply propext
      constructor
      · intro e
        have := congrArg (fun s => s.data.toList) e
        simp only [e1, e3, List.cons.injEq, and_true] at this
        exact this
      · intro e
        apply str_ext
        rw [e1, e3, e]
    rw [this]
    simp only [List.isPrefixOf, Bool.and_true]
    by_cases h : x = c
    · subst h; simp
    · have h' : ¬ c = x := fun e => h e.symm
      rw [decide_eq_false h]
      simpa using h'
end Go.Proofs.YtgnnijpfkgmomaaGreatDoor
