/-
  A history's state: what was asked for, done, told, all four blocks at once (pure).
-/
import Derived.Test.YtodjlaapmbnahaaMh3
import Derived.Test.YtodjlaapmbnahaaNeedH
namespace Go.Proofs.Ytodjlaapmbnahaa
open Go.RowKit
set_option linter.unusedVariables false
set_option linter.unusedSimpArgs false

structure HsA (E : List Ev) (V : List ByteArray) (ops : List OpR) : Prop where
  hs : Hs E ops
  hb : ∀ b, b < 4 → ∃ I, HB b E V ops I
  bl : Blks V
  n : V.length = 4
  fre : ∀ z : Int, (∀ x ∈ ops, x.id ≠ z) → told E z = none
/-- each one's number, and what it writes: marked with its number -/
def Mk (i : Nat) (ops : List OpR) : Prop := ∀ y ∈ ops, 1 ≤ y.id ∧ y.id ≤ i ∧ y.W ≠ 2 ∧ (y.W = 1 → ∃ m, MarkB y.id y.D m)
theorem part_wr {x : OpR} {k : Nat} {p : Pt} (hp : x.parts[k]? = some p) (hw : p.wr = true) : x.W = 1 ∨ x.W = 2 := by
  obtain ⟨e1, e2, e3, e4⟩ := parts_b hp
  have hm : x.W ≠ 3 ∧ AskMay x.W x.A x.L x.D 4 := by
    refine Classical.byContradiction fun h => ?_
    unfold OpR.parts evParts at hp
    rw [if_neg h] at hp
    cases hp
  have hin := hm.2.elim (fun h => absurd h hm.1) id
  have h0 : x.W ≠ 0 := fun h => by rw [hw, h] at e2; cases e2
  omega
theorem part_mark {x : OpR} {k : Nat} {p : Pt} {z : Int} {m : Nat} (hp : x.parts[k]? = some p) (hW : x.W = 1) (hD : MarkB z x.D m) :
    ∃ c d : UInt8, p.d.data.toList[0]? = some c ∧ c ≠ 255 ∧ p.d.data.toList[1]? = some d ∧ (d.toNat : Int) = 48 + z % 64 := by
  obtain ⟨e1, e2, e3, e4⟩ := parts_b hp
  have hk : k < m := by
    rw [askSz, if_pos hW] at e4
    have := hD.1
    omega
  obtain ⟨c, d, h1, h2, h3, h4⟩ := hD.2 k hk
  refine ⟨c, d, ?_, h2, ?_, h4⟩
  · rw [e3, partD, if_pos hW, Lib.extract_data, List.getElem?_take, if_pos (by omega), List.getElem?_drop]
    exact h1
  · rw [e3, partD, if_pos hW, Lib.extract_data, List.getElem?_take, if_pos (by omega), List.getElem?_drop]
    exact h3
theorem hsA0 : HsA [] (List.replicate 4 (zeroL 32)) [] := by
  refine ⟨hs0, fun b hb => ⟨_, hb0 b hb⟩, fun s hs => ?_, by simp, fun z _ => rfl⟩
  rw [List.eq_of_mem_replicate hs]
  exact zeroL_size 32
theorem Mk.rep {i : Nat} {ops : List OpR} {x x' : OpR} (h : Mk i ops) (hx : x ∈ ops) (h1 : x'.id = x.id) (h2 : x'.W = x.W) (h3 : x'.D = x.D) : Mk i (rep ops x') := fun y hy => by
  rcases mem_rep.1 hy with rfl | ⟨q, -⟩
  · rw [h1, h2, h3]; exact h x hx
  · exact h y q
theorem HsA.ask {E : List Ev} {V : List ByteArray} {ops : List OpR} (h : HsA E V ops) (x : OpR) (hxa : x.a = E.length) (hxd : x.done = false) (hxt : x.told = none) (hE : (E.length : Int) < NV) (hid : ∀ y ∈ ops, y.id ≠ x.id)
    (hnew : ∀ (k : Nat) (p : Pt), x.parts[k]? = some p → p.wr = true → p.d ≠ zeroL 32 ∧ ∀ y ∈ ops, ∀ (j : Nat) (q : Pt), y.parts[j]? = some q → q.wr = true → q.d ≠ p.d) : HsA (E ++ [x.ev]) V (x :: ops) := by
  refine ⟨hs_ask h.hs x hxa hxt hid (h.fre _ hid), fun b hb => ?_, h.bl, h.n, fun z hz => ?_⟩
  · obtain ⟨I, hI⟩ := h.hb b hb
    exact ⟨I, hb_ask h.hs hI x hxa hxd hxt hE fun k p h1 h2 h3 => ⟨(hnew k p h1 h3).1, fun y hy j q g1 g2 g3 => (hnew k p h1 h3).2 y hy j q g1 g3⟩⟩
  · rw [told_ask rfl]
    exact h.fre z fun y hy => hz y (List.mem_cons_of_mem _ hy)
theorem Mk.new {i : Nat} {ops : List OpR} {x : OpR} (h : Mk i ops) (hi : i < 60) (hid : x.id = (i : Int) + 1) (hW : x.W ≠ 2) (hm : x.W = 1 → ∃ m, MarkB x.id x.D m) :
    (∀ y ∈ ops, y.id ≠ x.id) ∧ (∀ (k : Nat) (p : Pt), x.parts[k]? = some p → p.wr = true → p.d ≠ zeroL 32 ∧ ∀ y ∈ ops, ∀ (j : Nat) (q : Pt), y.parts[j]? = some q → q.wr = true → q.d ≠ p.d) ∧ Mk (i + 1) (x :: ops) := by
  refine ⟨fun y hy e => ?_, fun k p hp hw => ?_, fun y hy => ?_⟩
  · have := h y hy
    omega
  · have h1 : x.W = 1 := (part_wr hp hw).resolve_right hW
    obtain ⟨m, hD⟩ := hm h1
    obtain ⟨c, d, m1, m2, m3, m4⟩ := part_mark hp h1 hD
    refine ⟨fun e => ?_, fun y hy j q hq hqw e => ?_⟩
    · rw [e] at m3
      have e0 : (zeroL 32).data.toList[1]? = some 0 := rfl
      rw [e0] at m3
      cases m3
      have : ((0 : UInt8).toNat : Int) = 0 := rfl
      omega
    · obtain ⟨y1, y2, y3, y4⟩ := h y hy
      have g1 : y.W = 1 := (part_wr hq hqw).resolve_right y3
      obtain ⟨m', hD'⟩ := y4 g1
      obtain ⟨c', d', n1, n2, n3, n4⟩ := part_mark hq g1 hD'
      rw [e, m3] at n3
      cases n3
      omega
  · rcases List.mem_cons.1 hy with rfl | q
    · exact ⟨by omega, by omega, hW, hm⟩
    · obtain ⟨y1, y2, y3, y4⟩ := h y q
      exact ⟨y1, by omega, y3, y4⟩
theorem HsA.tell {E : List Ev} {V : List ByteArray} {ops : List OpR} (h : HsA E V ops) (x : OpR) (hx : x ∈ ops) (hd : x.done = true) (ht : x.told = none) : HsA (E ++ [x.ans]) V (rep ops { x with told := some E.length }) := by
  refine ⟨hs_tell h.hs x hx hd ht, fun b hb => ?_, h.bl, h.n, fun z hz => ?_⟩
  · obtain ⟨I, hI⟩ := h.hb b hb
    exact ⟨I, hb_tell h.hs hI x hx hd⟩
  · have hz1 : x.id ≠ z := hz { x with told := some E.length } (mem_rep.2 (.inl rfl))
    have e : told E z = none := h.fre z fun y hy e => by
      by_cases hyx : y.id = x.id
      · exact hz1 (hyx.symm.trans e)
      · exact hz y (mem_rep.2 (.inr ⟨hy, hyx⟩)) e
    rw [told_next, e]
    have : isTold z x.ans = false := by unfold isTold; exact decide_eq_false hz1
    simp [this]
theorem stepV_len (s : Stp) (L : List ByteArray) : (stepV s L).length = L.length := by
  unfold stepV
  split
  · rw [doL_len]
  · rfl
theorem stepV_blks (s : Stp) {L : List ByteArray} (hB : Blks L) : Blks (stepV s L) := by
  unfold stepV
  split
  · rename_i hm
    have hin : 0 ≤ s.W ∧ s.W ≤ 2 ∧ Inside s.A (askSz s.W s.L s.D) 4 := hm.2.elim (fun h => absurd h hm.1) id
    have h2 := hin.2.2
    unfold Inside at h2
    refine doL_blks hB (fun h => ?_) (by omega) _ (Nat.le_refl _)
    have e : askSz s.W s.L s.D = s.D.size := by rw [askSz, if_pos h]
    omega
  · exact hB
theorem HsA.did {E : List Ev} {V : List ByteArray} {ops : List OpR} (h : HsA E V ops) (x : OpR) (hx : x ∈ ops) (hxd : x.done = false) (ht : x.told = none) (hE : (E.length : Int) < NV) : HsA E (stepV x.stp V) (rep ops { x with done := true, out := outS x.stp V }) := by
  obtain ⟨h1, h2⟩ := all_do h.hs h.hb h.bl h.n x hx hxd ht hE
  refine ⟨h1, h2, stepV_blks _ h.bl, (stepV_len _ _).trans h.n, fun z hz => h.fre z fun y hy e => ?_⟩
  by_cases hyx : y.id = x.id
  · exact hz _ (mem_rep.2 (.inl rfl)) (hyx.symm.trans e)
  · exact hz y (mem_rep.2 (.inr ⟨hy, hyx⟩)) e
end Go.Proofs.Ytodjlaapmbnahaa
