/-
  All of an order; how the mirror list lies beside an order.
-/
import Derived.Test.YtlabjemjhokcaaaOrdD
namespace Go.Proofs.Ytlabjemjhokcaaa
open Go.RowKit
set_option linter.unusedVariables false
set_option linter.unusedSimpArgs false

theorem RowAt.sr {w : World} {N : Nat} {v : Value} {l : List Int} (h : RowAt w N v l) : SR w v 1 l.length (nCells l) := by
  rcases h with ⟨rfl, rfl⟩ | ⟨g, cap, f, rfl, hg, hrow, hlc, hcm, hf⟩
  · exact SR.nil_ _ _
  · exact ⟨_, cap, rfl, hlc, hcm, by simp [nCells], .inr ⟨g, 0, rfl, hrow.lt, row_cells hrow hlc hf⟩⟩
set_option maxHeartbeats 1600000 in
set_option maxRecDepth 100000 in
theorem oall (l : List Int) (w : World) (N p : Nat) (v : Value) (h : Ord w N p v l) (hl : l.length ≤ 1000000) :
    Calls Try.prog 36 #[.pointer (some ⟨p, 0, none⟩)] w fun e w' => ∃ v', e = .returned v' ∧ SR w' v' 1 l.length (nCells l) ∧ Below w.heap.size w w' := by
  obtain ⟨i0, hi, hz0, hz1, hz2⟩ := info_parts oinfo
  obtain ⟨hN, hp, hr⟩ := h
  have hc := obj_cell hp
  have HR := Lib.hid hr.sr
  clear hr
  go_enter Try.func36, Try.ntmps36
  go_wp2_with (at_builtin; refine wp_app Try.underlying22 hi hz0 hz1 hz2 rfl (by decide) rfl (.const (.slice none 0 0)) (.tmp 8) rfl w.heap.size (.slice none 0 0) 0 [] rfl (World.ownsRow_nil _ _ _ _) v l.length (nCells l) rfl HR.out ?c1 ?c2 ?c3 ?c4 ?_)
  case c1 => exact nCells_one l
  case c2 => unfold maxLen; omega
  case c3 => omega
  case c4 => exact Nat.le_refl _
  intro v' w2 hown2 hgr
  have HG := Lib.hid hgr
  have HO := Lib.hid hown2
  clear hgr hown2
  go_wp2_with fail
  go_ret
  refine ⟨_, rfl, ?_, below_app (Below.refl _ _) HG.out (World.ownsRow_nil w w.heap.size 3 1) (Nat.le_refl _) (Nat.le_refl _)⟩
  exact SR.owns HO.out

/-- a mirror's block is neither the order's nor its row's -/
def Apart (mv ov : Value) (p : Nat) : Prop := ∀ b, mv.ownBlock = some b → b ≠ p ∧ some b ≠ ov.ownBlock
theorem sr_kept {w w' : World} {N p : Nat} {mv v v' : Value} {l : List Int} (h : SR w mv 1 l.length (nCells l)) (ha : Apart mv v p) (hk : OKept w w' N p v v') : SR w' mv 1 l.length (nCells l) := by
  obtain ⟨a, cap, rfl, h1, h2, h3, h4⟩ := h
  refine ⟨a, cap, rfl, h1, h2, h3, h4.imp id ?_⟩
  rintro ⟨b, off, rfl, hb, hc⟩
  obtain ⟨n1, n2⟩ := ha b rfl
  refine ⟨b, off, rfl, Nat.lt_of_lt_of_le hb hk.size, fun j u hj => ?_⟩
  have := hk.block b hb n1 n2
  have hcu := hc j u hj
  simp only [World.cell?] at hcu ⊢
  rw [this]
  exact hcu
theorem SR.lt {w : World} {mv : Value} {n : Nat} {xs : List Value} (h : SR w mv 1 n xs) : n = 0 ∨ ∀ b, mv.ownBlock = some b → b < w.heap.size := by
  obtain ⟨a, cap, rfl, h1, h2, h3, h4⟩ := h
  rcases h4 with h4 | ⟨b, off, rfl, hb, hc⟩
  · exact .inl h4
  · exact .inr fun k e => by cases e; exact hb
theorem apart_kept {w w' : World} {N p : Nat} {mv v v' : Value} (ha : Apart mv v p) (hb : ∀ b, mv.ownBlock = some b → b < w.heap.size) (hk : OKept w w' N p v v') : Apart mv v' p := by
  intro b e
  obtain ⟨n1, n2⟩ := ha b e
  refine ⟨n1, fun e2 => ?_⟩
  rcases hk.new with hn | hn
  · exact n2 (e2.trans hn)
  · exact absurd (hn b e2.symm) (by have := hb b e; omega)
/-- a row made just now is apart -/
theorem apart_new {w w' : World} {N p n : Nat} {mv v : Value} {l : List Int} {xs : List Value} (h : Ord w N p v l) (ho : w'.ownsRow w.heap.size 3 1 mv n xs) : Apart mv v p := by
  intro b e
  have hb := (ho.lt b e).1
  exact ⟨fun e2 => by have := obj_lt h.2.1; omega, fun e2 => by have := h.2.2.lt b e2.symm; omega⟩
/-- what the loop keeps -/
structure PRel (N p j : Nat) (w0 w : World) (mv ov : Value) (l : List Int) : Prop where
  ord : Ord w N p ov l
  mir : SR w mv 1 l.length (nCells l)
  mlt : ∀ b, mv.ownBlock = some b → b < w.heap.size
  apart : Apart mv ov p
  len : l.length ≤ j
  once : l.Nodup
  below : Below w0.heap.size w0 w
theorem offL_erase (l : List Int) (n : Int) (h : l.Nodup) : offL n l = l.erase n := by
  rw [h.erase_eq_filter]
  unfold offL
  congr 1
theorem owns_mlt {w : World} {base n : Nat} {mv : Value} {xs : List Value} (h : w.ownsRow base 3 1 mv n xs) : ∀ b, mv.ownBlock = some b → b < w.heap.size := fun b e => (h.lt b e).2
/-- a number is used -/
theorem prel_use {N p j : Nat} {w0 w w1 w2 : World} {mv mv' ov ov' : Value} {l : List Int} {n : Int} (hr : PRel N p j w0 w mv ov l) (hN : w0.heap.size ≤ N) (ho : Ord w1 N p ov' (n :: l.erase n)) (hk : OKept w w1 N p ov ov')
    (hb : Below w1.heap.size w1 w2) (hm : w2.ownsRow w1.heap.size 3 1 mv' (l.erase n).length.succ (nCells (n :: l.erase n))) : PRel N p (j + 1) w0 w2 mv' ov' (n :: l.erase n) :=
  ⟨ho.below hb, SR.owns hm, owns_mlt hm, apart_new ho hm, by have := hr.len; have := List.length_erase_le (a := n) (l := l); simp; omega,
    List.nodup_cons.2 ⟨fun h => by rw [hr.once.mem_erase_iff] at h; exact h.1 rfl, hr.once.erase n⟩,
    (hr.below.trans (hk.below.mono hN)).trans (hb.mono (Nat.le_trans hr.below.size hk.size))⟩
/-- a number goes -/
theorem prel_drop {N p j : Nat} {w0 w w1 w2 : World} {mv mv' ov ov' : Value} {l : List Int} {n : Int} (hr : PRel N p j w0 w mv ov l) (hN : w0.heap.size ≤ N) (hm : w1.ownsRow w.heap.size 3 1 mv' (offL n l).length (nCells (offL n l))) (hb : Below w.heap.size w w1)
    (ho : Ord w2 N p ov' (l.erase n)) (hk : OKept w1 w2 N p ov ov') : PRel N p (j + 1) w0 w2 mv' ov' (l.erase n) := by
  have ha := apart_new hr.ord hm
  have hlt := owns_mlt hm
  rw [offL_erase l n hr.once] at hm
  exact ⟨ho, sr_kept (SR.owns hm) ha hk, fun b e => Nat.lt_of_lt_of_le (hlt b e) hk.size, apart_kept ha hlt hk, by have := hr.len; have := List.length_erase_le (a := n) (l := l); omega, hr.once.erase n,
    (hr.below.trans (hb.mono hr.below.size)).trans (hk.below.mono hN)⟩
theorem own_same (a : Option Addr) (n m c : Nat) : (Value.slice a n c).ownBlock = (Value.slice a m c).ownBlock := by cases a <;> rfl
/-- the last one goes -/
theorem prel_pop {N p j len cap : Nat} {w0 w w2 : World} {a : Option Addr} {ov ov' : Value} {l : List Int} {n : Int} (hr : PRel N p j w0 w (.slice a len cap) ov (l ++ [n])) (hN : w0.heap.size ≤ N)
    (ho : Ord w2 N p ov' l) (hk : OKept w w2 N p ov ov') : PRel N p (j + 1) w0 w2 (.slice a l.length cap) ov' l := by
  have hl : (l ++ [n]).length = l.length + 1 := by simp
  have hm := hr.mir
  have hlen : len = (l ++ [n]).length := by obtain ⟨a', cap', he, _⟩ := hm; injection he
  subst hlen
  have h2 := (sr_kept hm hr.apart hk).front l.length (by omega)
  rw [nCells_take, List.take_left] at h2
  exact ⟨ho, h2, fun b e => Nat.lt_of_lt_of_le (hr.mlt b ((own_same a _ _ cap).trans e)) hk.size, fun b e => apart_kept hr.apart hr.mlt hk b ((own_same a _ _ cap).trans e), by have := hr.len; omega, (List.nodup_append.1 hr.once).1, hr.below.trans (hk.below.mono hN)⟩
theorem prel_stay {N p j : Nat} {w0 w : World} {mv ov : Value} {l : List Int} (hr : PRel N p j w0 w mv ov l) : PRel N p (j + 1) w0 w mv ov l := ⟨hr.ord, hr.mir, hr.mlt, hr.apart, by have := hr.len; omega, hr.once, hr.below⟩
theorem off_len (l : List Int) (n : Int) (h : l.Nodup) : (offL n l).length = if n ∈ l then l.length - 1 else l.length := by
  rw [offL_erase l n h, List.length_erase]
set_option maxHeartbeats 1600000 in
theorem opope (w : World) (N p : Nat) (v : Value) (h : Ord w N p v []) : Calls Try.prog 34 #[.pointer (some ⟨p, 0, none⟩)] w fun e w' => e = .returned (.tuple #[.int .i64 0, .bool false]) ∧ w = w' := by
  have hol := olen [] w N p _ h
  go_enter Try.func34, Try.ntmps34
  go_wp2_with fail
  refine Calls.mono hol ?_
  rintro e w1 ⟨rfl, rfl⟩
  go_wp2_with fail
  all_goals go_returns
  all_goals exact ⟨rfl, rfl⟩
end Go.Proofs.Ytlabjemjhokcaaa
