/-
  DiskPlays: a disk, and the law's own lists beside it.
-/
import Derived.Test.YtbmjkieikaapfaaDiskI
import Derived.Test.YtbmjkieikaapfaaAreaB
import Derived.Test.YtbmjkieikaapfaaFits
namespace Go.Proofs.Ytbmjkieikaapfaa
open Go.RowKit
set_option linter.unusedVariables false
set_option linter.unusedSimpArgs false

theorem owns_same {w w' : World} {base n size : Nat} {e : TypeId} {v : Value} {xs : List Value} (h : w.ownsRow base e size v n xs) (hk : ∀ k, v.ownBlock = some k → w'.heap[k]? = w.heap[k]?) : w'.ownsRow base e size v n xs := by
  refine ⟨h.1, ?_⟩
  rcases h.2 with hn | ⟨g, cap, cur, rfl, hb, hg, rest⟩
  · exact .inl hn
  · exact .inr ⟨g, cap, cur, rfl, hb, (hk g rfl).trans hg, rest⟩
theorem Dsk.same {w w' : World} {N p : Nat} {sv lv : Value} {S : List ByteArray} {L : List (Nat × ByteArray)} (h : Dsk w N p sv lv S L) (hp : w'.heap[p]? = w.heap[p]?) (hs : ∀ k, sv.ownBlock = some k → w'.heap[k]? = w.heap[k]?) (hl : ∀ k, lv.ownBlock = some k → w'.heap[k]? = w.heap[k]?) : Dsk w' N p sv lv S L :=
  ⟨h.hp, hp.trans h.obj, owns_same h.sure hs, owns_same h.later hl, h.sizes, h.ats, h.most⟩
/-- a disk and the lists of the law: what is sure, and what is not -/
structure PR (wr : World) (N p g cap n : Nat) (sv lv rv : Value) (SD : List ByteArray) (LD : List (Nat × ByteArray)) (SM : List ByteArray) (LM : List (Nat × ByteArray)) : Prop where
  dsk : Dsk wr N p sv lv SD LD
  sure : wr.ownsRow N 9 1 (.slice (some ⟨g, 0, none⟩) n cap) n (sCells SM)
  row : wr.ownsRow N 36 2 rv LM.length (wCells LM)
  apart : sv.ownBlock ≠ some g
section
variable {wr w2 : World} {N p g cap n : Nat} {sv lv rv : Value} {SD SM : List ByteArray} {LD LM : List (Nat × ByteArray)}
theorem PR.below (h : PR wr N p g cap n sv lv rv SD LD SM LM) (hb : Below wr.heap.size wr w2) : PR w2 N p g cap n sv lv rv SD LD SM LM := ⟨h.dsk.below hb, owns_below h.sure hb, owns_below h.row hb, h.apart⟩
theorem PR.gp (h : PR wr N p g cap n sv lv rv SD LD SM LM) : g ≠ p := fun e => row_other h.sure h.dsk.obj (by decide) (by rw [e]; rfl)
theorem PR.gl (h : PR wr N p g cap n sv lv rv SD LD SM LM) : lv.ownBlock ≠ some g := rows_apart h.sure h.dsk.later (by decide) g rfl
theorem PR.gr (h : PR wr N p g cap n sv lv rv SD LD SM LM) : rv.ownBlock ≠ some g := rows_apart h.sure h.row (by decide) g rfl
theorem PR.rp (h : PR wr N p g cap n sv lv rv SD LD SM LM) (k : Nat) (hk : rv.ownBlock = some k) : k ≠ p := fun e => row_other h.row h.dsk.obj (by decide) (by rw [hk, e])
theorem PR.rs (h : PR wr N p g cap n sv lv rv SD LD SM LM) (k : Nat) (hk : rv.ownBlock = some k) : sv.ownBlock ≠ some k := rows_apart h.row h.dsk.sure (by decide) k hk
theorem PR.rl (h : PR wr N p g cap n sv lv rv SD LD SM LM) (k : Nat) (hk : rv.ownBlock = some k) : lv.ownBlock ≠ some k := rows_apart h.row h.dsk.later (by decide) k hk
/-- the disk changes -/
theorem PR.disk {lv2 : Value} {SD2 : List ByteArray} {LD2 : List (Nat × ByteArray)} (h : PR wr N p g cap n sv lv rv SD LD SM LM) (hd : Dsk w2 N p sv lv2 SD2 LD2) (hk : DKept wr w2 N p sv lv lv2) : PR w2 N p g cap n sv lv2 rv SD2 LD2 SM LM := by
  refine ⟨hd, owns_same h.sure fun k e => ?_, owns_same h.row fun k e => ?_, h.apart⟩
  · have : k = g := by cases e; rfl
    subst this
    exact hk.block k (h.sure.lt k rfl).2 h.gp (fun e => h.apart e.symm) (fun e => h.gl e.symm)
  · exact hk.block k (h.row.lt k e).2 (h.rp k e) (fun e2 => h.rs k e e2.symm) (fun e2 => h.rl k e e2.symm)
/-- a sector of the law's own -/
theorem PR.set (h : PR wr N p g cap n sv lv rv SD LD SM LM) (k : Nat) (v : ByteArray) : PR (wr.setCell ⟨g, k, none⟩ (.string v)) N p g cap n sv lv rv SD LD (SM.set k v) LM ∧ Below N wr (wr.setCell ⟨g, k, none⟩ (.string v)) := by
  obtain ⟨h1, h2⟩ := h.sure.stored k (.string v)
  rw [sCells_set] at h1
  have ho : ∀ b, b ≠ g → (wr.setCell ⟨g, k, none⟩ (.string v)).heap[b]? = wr.heap[b]? := fun b hb => heap_setCell_other _ _ _ _ hb
  refine ⟨⟨h.dsk.same (ho p (fun e => h.gp e.symm)) (fun b e => ho b (fun e2 => h.apart (by rw [e, e2]))) (fun b e => ho b (fun e2 => h.gl (by rw [e, e2]))), h1, owns_same h.row (fun b e => ho b (fun e2 => h.gr (by rw [e, e2]))), h.apart⟩, ?_⟩
  exact (Below.refl N wr).setCell (p := ⟨g, k, none⟩) (h.sure.lt g rfl).1 _
theorem PR.nil (h : PR wr N p g cap n sv lv rv SD LD SM LM) : PR wr N p g cap n sv lv (.slice none 0 0) SD LD SM [] := ⟨h.dsk, h.sure, World.ownsRow_nil _ _ _ _, h.apart⟩
theorem PR.len (h : PR wr N p g cap n sv lv rv SD LD SM LM) : SM.length = n := by have := h.sure.1; rw [sCells_length] at this; omega
theorem PR.cell (h : PR wr N p g cap n sv lv rv SD LD SM LM) (k : Nat) (x : ByteArray) (hx : SM[k]? = some x) : wr.cell? ⟨g, k, none⟩ = some (.string x) := by
  have hk := (List.getElem?_eq_some_iff.1 hx).1
  rw [h.sure.cellAt k (by have := h.len; omega)]
  exact sCells_at _ _ _ hx
theorem PR.frozen (h : PR wr N p g cap n sv lv rv SD LD SM LM) (k : Nat) : wr.frozen? ⟨g, k, none⟩ = false := h.sure.frozenAt k
/-- the row of what is not sure -/
theorem PR.rform (h : PR wr N p g cap n sv lv rv SD LD SM LM) : ∃ a c, rv = .slice a LM.length c ∧ LM.length ≤ c ∧ c ≤ maxLen ∧ ∀ j x, LM[j]? = some x → ∃ b, a = some ⟨b, 0, none⟩ ∧ wr.cell? ⟨b, j * 2, none⟩ = some (.int .i64 x.1) ∧ wr.cell? ⟨b, j * 2 + 1, none⟩ = some (.string x.2) := by
  have hs := h.row
  rcases hs.2 with ⟨rfl, h'⟩ | ⟨b, c, cur, rfl, _, hg, h1, h2, _⟩
  · refine ⟨none, 0, by rw [h'], by omega, by unfold maxLen; omega, fun j x hj => ?_⟩
    have hlt : j < LM.length := (List.getElem?_eq_some_iff.1 hj).1
    omega
  · refine ⟨_, c, rfl, h1, h2, fun j x hj => ⟨b, rfl, ?_⟩⟩
    have hlt : j < LM.length := (List.getElem?_eq_some_iff.1 hj).1
    rw [hs.cellAt (j * 2) (by omega), hs.cellAt (j * 2 + 1) (by omega)]
    exact wCells_at _ _ _ hj
/-- another block lies apart -/
theorem PR.other {q : Nat} {A : Array Value} {t : TypeId} {f : Nat × Nat} (h : PR wr N p g cap n sv lv rv SD LD SM LM) (hq : wr.heap[q]? = some (.cells A t f)) (h1 : t ≠ 53) (h2 : t ≠ 9) (h3 : t ≠ 60) (h4 : t ≠ 36) :
    q ≠ p ∧ some q ≠ sv.ownBlock ∧ some q ≠ lv.ownBlock ∧ q ≠ g ∧ some q ≠ rv.ownBlock := by
  refine ⟨fun e => ?_, fun e => row_other h.dsk.sure hq h2 e.symm, fun e => row_other h.dsk.later hq h3 e.symm, fun e => row_other h.sure hq h2 (by rw [e]; rfl), fun e => row_other h.row hq h4 e.symm⟩
  have := h.dsk.obj
  rw [← e, hq] at this
  injection this with this
  injection this with _ e2
  exact h1 e2
/-- something more that is not sure -/
theorem PR.push {v2 : Value} {x : Nat × ByteArray} (h : PR wr N p g cap n sv lv rv SD LD SM LM) (ho : w2.ownsRow N 36 2 v2 (LM.length + 1) (wCells LM ++ [.int .i64 x.1, .string x.2])) (hg : wr.grownBy w2 rv.ownBlock) : PR w2 N p g cap n sv lv v2 SD LD SM (LM ++ [x]) ∧ Below N wr w2 := by
  have hb : ∀ k, k < wr.heap.size → rv.ownBlock ≠ some k → w2.heap[k]? = wr.heap[k]? := fun k hk hne => hg.block k hk (fun e => hne e.symm)
  refine ⟨⟨h.dsk.same (hb p h.dsk.lt (fun e => h.rp p e rfl)) (fun k e => hb k (h.dsk.sure.lt k e).2 (fun e2 => h.rs k e2 e)) (fun k e => hb k (h.dsk.later.lt k e).2 (fun e2 => h.rl k e2 e)), owns_same h.sure (fun k e => ?_), ?_, h.apart⟩, ?_⟩
  · have : k = g := by cases e; rfl
    subst this
    exact hb k (h.sure.lt k rfl).2 (fun e2 => h.gr e2)
  · rw [List.length_append, wCells_append]
    exact ho
  · exact (Below.refl N wr).grown hg h.dsk.le (fun k e => (h.row.lt k e).1)
end
end Go.Proofs.Ytbmjkieikaapfaa
