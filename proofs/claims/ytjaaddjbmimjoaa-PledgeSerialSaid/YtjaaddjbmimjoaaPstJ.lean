/-
  pledge: what a block may hold (Of), where each writing but the last is over before the next began.
-/
import Derived.Test.YtjaaddjbmimjoaaPstI
namespace Go.Proofs.Ytjaaddjbmimjoaa
open Go.RowKit
open Go.Maps (Keyed)
set_option linter.unusedVariables false
set_option linter.unusedSimpArgs false

/-- the value of what was written last -/
def sureU (W : List Us) : ByteArray := (W.map (fun u => u.val)).getLastD (zeroL 32)
theorem sure_next {W : List Us} {j : Nat} {x : Us} (h : W[j]? = some x) : sureU (W.take (j + 1)) = x.val := by
  unfold sureU
  rw [take_next h, List.map_append]
  simp
/-- the blocks of a pledge in the making: p what it is, Y the map's variable, b the map -/
structure OSt (p Y b : Nat) (v : Value) (W : List Us) (j : Nat) (wr : World) : Prop where
  pl : wr.heap[p]? = some (.cells #[.string (sureU (W.take j)), .slice none 0 0] 99)
  var : wr.heap[Y]? = some (.cells #[.map (some b)] 146)
  map : ∃ D, wr.ownsMap Try.prog 3 plP b j D ∧ ∀ x, Maps.has D (.int .i64 x) = decide (x ∈ (W.take j).map (fun u => u.from_))
  el : Elts wr Us.c 4 v W
  ty : ∀ g, v.ownBlock = some g → ∃ A fr, wr.heap[g]? = some (.cells A 143 fr)
theorem OSt.below {p Y b j : Nat} {v : Value} {W : List Us} {wr w' : World} (h : OSt p Y b v W j wr) (hb : Below wr.heap.size wr w') : OSt p Y b v W j w' := by
  obtain ⟨D, hm, hD⟩ := h.map
  refine ⟨below_at hb (lt_heap h.pl) h.pl, below_at hb (lt_heap h.var) h.var, ⟨D, ?_, hD⟩, h.el.below hb, fun g e => ?_⟩
  · have hlt := hm.lt
    obtain ⟨es, clock, h1, F⟩ := hm
    exact ⟨es, clock, (hb.block b hlt).trans h1, F⟩
  · obtain ⟨A, fr, q⟩ := h.ty g e
    exact ⟨A, fr, below_at hb (lt_heap q) q⟩
theorem OSt.ne {p Y b j : Nat} {v : Value} {W : List Us} {wr : World} (h : OSt p Y b v W j wr) : p ≠ Y ∧ p ≠ b ∧ Y ≠ b ∧ v.ownBlock ≠ some p ∧ v.ownBlock ≠ some b ∧ b < wr.heap.size := by
  obtain ⟨D, hm, hD⟩ := h.map
  have hlt := hm.lt
  obtain ⟨es, clock, hm, -⟩ := hm
  have h1 := h.pl
  have h2 := h.var
  refine ⟨fun e => ?_, fun e => ?_, fun e => ?_, fun e => ?_, fun e => ?_, hlt⟩
  · rw [e, h2] at h1; injection h1 with h1; injection h1 with _ h1; exact absurd h1 (by decide)
  · rw [e, hm] at h1; cases h1
  · rw [e, hm] at h2; cases h2
  · obtain ⟨A, fr, q⟩ := h.ty _ e
    rw [h1] at q; injection q with q; injection q with _ q; exact absurd q (by decide)
  · obtain ⟨A, fr, q⟩ := h.ty _ e
    rw [hm] at q; cases q
/-- one writing more: told into the map -/
theorem OSt.store {p Y b j : Nat} {v : Value} {W : List Us} {wr : World} (h : OSt p Y b v W j wr) {x : Us} (hx : W[j]? = some x) (hf : (Lit.int .i64 x.from_).wf = true) (ht : (Lit.int .i64 x.til).wf = true) (hj : j < 1000000) :
    ∃ w', (Instr.mapUpdate 146 (.map (some b)) (.int .i64 x.from_) (.int .i64 x.til)).run Try.prog wr = .ok () w' ∧ wr.grownBy w' (some b) ∧
      w'.heap[p]? = some (.cells #[.string (sureU (W.take j)), .slice none 0 0] 99) ∧ OSt p Y b v W (j + 1) (w'.setCell ⟨p, 0, none⟩ (.string x.val)) := by
  obtain ⟨n1, n2, n3, n4, n5, n6⟩ := h.ne
  obtain ⟨D, hm, hD⟩ := h.map
  obtain ⟨w', h1, h2, h3⟩ := hm.update keyP Try.underlying146 (show j < maxLen by unfold maxLen; omega) (Go.Maps.keyOf_int_mk Try.underlying3 hf) (plainElem_int (H := Unit) Try.underlying3 ht)
  have hp : w'.heap[p]? = some (.cells #[.string (sureU (W.take j)), .slice none 0 0] 99) := (h3.block p (lt_heap h.pl) (fun e => n2 (by injection e))).trans h.pl
  refine ⟨w', h1, h3, hp, ?_, ?_, ⟨D.put (.int .i64 x.from_) (.lit (.int .i64 x.til)), h2.setCell (a := ⟨p, 0, none⟩) (fun e => n2 e.symm) _, fun y => ?_⟩, ?_, fun g e => ?_⟩
  · rw [sure_next hx]
    exact heap_set_self hp 0 _
  · rw [heap_setCell_other _ _ _ _ (fun e => n1 e.symm)]
    exact (h3.block Y (lt_heap h.var) (fun e => n3 (by injection e))).trans h.var
  · rw [take_next hx, List.map_append]
    by_cases e : y = x.from_
    · subst e
      rw [Maps.has_put_same hm.isMap (by trivial)]
      simp
    · rw [Maps.has_put_other (by intro q; injection q with _ q; exact e q), hD y]
      simp [e]
  · refine h.el.move (by simpa using h3.size) fun g e => ?_
    obtain ⟨A, fr, q⟩ := h.ty g e
    rw [heap_setCell_other _ _ _ _ (fun r => n4 (by rw [e]; exact congrArg some r))]
    exact h3.block g (lt_heap q) (fun r => n5 (by rw [e]; exact r))
  · obtain ⟨A, fr, q⟩ := h.ty g e
    refine ⟨A, fr, ?_⟩
    rw [heap_setCell_other _ _ _ _ (fun r => n4 (by rw [e]; exact congrArg some r))]
    exact (h3.block g (lt_heap q) (fun r => n5 (by rw [e]; exact r))).trans q
end Go.Proofs.Ytjaaddjbmimjoaa
