/-
  The waking call of layer 18; LeadPlays' walk.
-/
import Derived.Test.YtadejhlljdcocaaRlogC
import Derived.Test.YtadejhlljdcocaaFits
import Derived.Test.YtadejhlljdcocaaMask
namespace Go.Proofs.Ytadejhlljdcocaa
open Go.RowKit Go.Sort
set_option linter.unusedVariables false
set_option linter.unusedSimpArgs false

theorem OnlyA.grown {a : Nat} {w w' : World} (h : OnlyA a w w') : w.grownBy w' (some a) := ⟨h.2.1.os, h.2.1.tape, h.2.1.output, h.1, fun k hk hn => h.2.2 k hk (fun e => hn (by rw [e]))⟩
theorem LogZ.only {w w' : World} {N g a : Nat} {v : Value} {ts : List Int} {M X : Nat → Int} (h : LogZ w N g v ts) (ho : OnlyA a w w') (hl : LeadAt w a M X) : LogZ w' N g v ts := by
  have hne : g ≠ a := by
    rintro rfl
    have := h.obj
    unfold LeadAt at hl
    rw [hl] at this
    injection this with this
    injection this with _ h2
    exact absurd h2 (by decide)
  exact ⟨h.low, (ho.2.2 g (lt_heap h.obj) hne).trans h.obj, h.row.kept ho.grown (.inr (row_otherE h.row hl (by decide)))⟩
theorem OnlyA.below {a : Nat} {w0 w w' : World} (h : OnlyA a w w') (hb : Below w0.heap.size w0 w) (ha : w0.heap.size ≤ a) : Below w0.heap.size w0 w' := hb.trans (h.2.1.mono ha)
set_option maxHeartbeats 3200000 in
set_option maxRecDepth 100000 in
theorem awake18 (w : World) : Calls Try.prog 27 #[] w fun e w' => e = .returned (.bool true) ∧ Below w.heap.size w w' := by
  have hb0 := (Below.refl w.heap.size w).alloc (Nat.le_refl _) (.cells (eCells [1, 1, 1]).toArray 35)
  have hs := SR.lit w 35 (eCells [1, 1, 1]).toArray 7 3 (by decide) rfl
  have cn := fun w' (v : Value) (h : SR w' v 7 3 (eCells [1, 1, 1])) => rnewZ [1, 1, 1] (by decide) (by decide) w' v h
  have cl := fun w' => lnew 3 (by decide) (by decide) w'
  have HB0 := Lib.hid hb0
  have c1 := cn _ _ hs
  rw [show eCells [1, 1, 1] = [.int .i64 1, .int .i64 0, .int .i64 0, .int .i64 0, .int .i64 0, .slice none 0 0, .slice none 0 0, .int .i64 1, .int .i64 0, .int .i64 0, .int .i64 0, .int .i64 0, .slice none 0 0, .slice none 0 0, .int .i64 1, .int .i64 0, .int .i64 0, .int .i64 0, .int .i64 0, .slice none 0 0, .slice none 0 0] from rfl] at c1 HB0
  clear hb0 hs cn
  go_enter Try.func27, Try.ntmps27
  go_wp2_with fail
  refine Calls.mono c1 ?_
  rintro e w1 ⟨v, rfl, hL, hb1⟩
  have HB1 := Lib.hid (HB0.out.trans (hb1.mono HB0.out.size))
  have hgN := hL.low
  generalize (w.alloc (.cells (List.toArray [.int .i64 1, .int .i64 0, .int .i64 0, .int .i64 0, .int .i64 0, .slice none 0 0, .slice none 0 0, .int .i64 1, .int .i64 0, .int .i64 0, .int .i64 0, .int .i64 0, .slice none 0 0, .slice none 0 0, .int .i64 1, .int .i64 0, .int .i64 0, .int .i64 0, .int .i64 0, .slice none 0 0, .slice none 0 0]) 35)) = w0 at *
  have HL := Lib.hid hL
  have hws : w.heap.size ≤ w0.heap.size := HB0.out.size
  clear hb1 hL c1 hgN
  obtain ⟨g, hg⟩ : ∃ g, w0.heap.size = g := ⟨_, rfl⟩
  rw [hg] at hws HL ⊢
  clear hg
  go_wp2_with fail
  refine Calls.mono (cl _) ?_
  rintro e w2 ⟨rfl, hA, hb2⟩
  have hL2 := HL.out.below hb2
  have cy := lyes_in 0 (by decide) 3 _ w2 _ _ hA (by decide) (by decide) ⟨by decide, by decide⟩
  have HB2 := Lib.hid (HB1.out.trans (hb2.mono HB1.out.size))
  have haw : w.heap.size ≤ w1.heap.size := HB1.out.size
  have HX := Lib.hid (And.intro hL2 hA)
  obtain ⟨a, ha⟩ : ∃ a, w1.heap.size = a := ⟨_, rfl⟩
  rw [ha] at cy haw HX ⊢
  clear hb2 hL2 hA ha cl
  go_wp2_with fail
  refine Calls.mono cy ?_
  rintro e w3 ⟨rfl, hA3, hO3⟩
  have hL3 := HX.out.1.only hO3 HX.out.2
  have cy2 := lyes_in 1 (by decide) 2 _ w3 _ _ hA3 (by decide) (by decide) ⟨by decide, by decide⟩
  have HB3 := Lib.hid (hO3.below HB2.out haw)
  have HX3 := Lib.hid (And.intro hL3 hA3)
  clear hL3 hA3 hO3 cy HX
  go_wp2_with fail
  refine Calls.mono cy2 ?_
  rintro e w4 ⟨rfl, hA4, hO4⟩
  have hL4 := HX3.out.1.only hO4 HX3.out.2
  have cd := ldecided 1 0 w4 a g g _ _ _ _ hA4 hL4 (by decide) (by intro i hi; match i, hi with | 0, _ => decide | 1, _ => decide | 2, _ => decide)
  have hmed : med3 (yesM (yesM (fun _ => 0) 0 3) 1 2) = 2 := by
    unfold med3
    rw [show (yesM (yesM (fun _ => 0) 0 3) 1 2) 0 = 3 from rfl, show (yesM (yesM (fun _ => 0) 0 3) 1 2) 1 = 2 from rfl, show (yesM (yesM (fun _ => 0) 0 3) 1 2) 2 = 0 from rfl]
    simp [List.mergeSort]
  have hdz : decZ (yesM (yesM (fun _ => 0) 0 3) 1 2) [1, 1, 1] 1 0 = 2 := by
    unfold decZ
    rw [hmed]
    rfl
  rw [hdz] at cd
  have HB4 := Lib.hid (hO4.below HB3.out haw)
  have HA4 := Lib.hid hA4
  clear hL4 hA4 hO4 cy2 HX3 hmed hdz
  go_wp2_with fail
  refine Calls.mono cd ?_
  rintro e w5 ⟨rfl, hb5⟩
  have hA5 := HA4.out.below hb5
  have cx := lnext_in 1 (by decide) a w5 _ _ hA5
  have cm := lmatch_in 1 (by decide) a w5 _ _ hA5
  rw [show yesX (yesM (fun _ => 0) 0 3) (yesX (fun _ => 0) (fun _ => 3 + 1) 0 3) 1 2 1 = 4 from rfl] at cx
  rw [show yesM (yesM (fun _ => 0) 0 3) 1 2 1 = 2 from rfl] at cm
  have HB5 := Lib.hid (HB4.out.trans (hb5.mono HB4.out.size))
  clear hb5 hA5 cd
  go_wp2_with fail
  refine Calls.mono cx ?_
  rintro e w6 ⟨rfl, rfl⟩
  go_wp2_with fail
  refine Calls.mono cm ?_
  rintro e w6 ⟨rfl, rfl⟩
  go_wp2_with fail
  go_ret
  exact ⟨rfl, HB5.out⟩
def arr3 (M : Nat → Int) : Array Value := #[.int .i64 (M 0), .int .i64 (M 1), .int .i64 (M 2)]
/-- what LeadPlays' loop keeps -/
structure PL (w0 wr : World) (a b1 b2 : Nat) (M X : Nat → Int) : Prop where
  la : w0.heap.size ≤ a
  l1 : w0.heap.size ≤ b1
  l2 : w0.heap.size ≤ b2
  n1 : a ≠ b1
  n2 : a ≠ b2
  n3 : b1 ≠ b2
  lead : LeadAt wr a M X
  m : wr.heap[b1]? = some (.cells (arr3 M) 44)
  x : wr.heap[b2]? = some (.cells (arr3 X) 44)
  below : Below w0.heap.size w0 wr
  bnd : ∀ k, k < 3 → 0 ≤ M k ∧ M k < X k ∧ X k ≤ 64
theorem PL.go {w0 wr wx : World} {a b1 b2 : Nat} {M X : Nat → Int} (h : PL w0 wr a b1 b2 M X) (hb : Below wr.heap.size wr wx) : PL w0 wx a b1 b2 M X :=
  ⟨h.la, h.l1, h.l2, h.n1, h.n2, h.n3, h.lead.below hb, below_at hb (lt_heap h.m) h.m, below_at hb (lt_heap h.x) h.x, h.below.trans (hb.mono h.below.size), h.bnd⟩
theorem arr3_set (M : Nat → Int) (k : Nat) (hk : k < 3) (v : Int) : (arr3 M).setIfInBounds k (.int .i64 v) = arr3 (updL M k v) := by
  match k, hk with
  | 0, _ => rfl
  | 1, _ => rfl
  | 2, _ => rfl
theorem arr3_at (M : Nat → Int) (k : Nat) (hk : k < 3) : (arr3 M)[k]? = some (.int .i64 (M k)) := by
  match k, hk with
  | 0, _ => rfl
  | 1, _ => rfl
  | 2, _ => rfl
theorem maxI_le {a b c : Int} (h1 : a ≤ c) (h2 : b ≤ c) : maxI a b ≤ c := by unfold maxI; split <;> omega
theorem le_maxI_l (a b : Int) : a ≤ maxI a b := by unfold maxI; split <;> omega
theorem le_maxI_r (a b : Int) : b ≤ maxI a b := by unfold maxI; split <;> omega
theorem PL.no {w0 wr w1 : World} {a b1 b2 : Nat} {M X : Nat → Int} (h : PL w0 wr a b1 b2 M X) (k : Nat) (hk : k < 3) (hl : LeadAt w1 a M (noX M X k)) (ho : OnlyA a wr w1) :
    PL w0 (w1.setCell ⟨b2, k, none⟩ (.int .i64 (maxI (X k - 1) (M k + 1)))).drew a b1 b2 M (noX M X k) := by
  have hm1 := (ho.2.2 b1 (lt_heap h.m) (Ne.symm h.n1)).trans h.m
  have hx1 := (ho.2.2 b2 (lt_heap h.x) (Ne.symm h.n2)).trans h.x
  refine ⟨h.la, h.l1, h.l2, h.n1, h.n2, h.n3, ?_, ?_, ?_, ?_, ?_⟩
  · exact (heap_setCell_other _ _ _ _ h.n2).trans hl
  · exact (heap_setCell_other _ _ _ _ h.n3).trans hm1
  · exact ((heap_setCell_same _ _ _ _ _ _ hx1).trans (by rw [arr3_set X k hk]; rfl))
  · exact below_drew' ((ho.below h.below h.la).setCell (p := ⟨b2, k, none⟩) h.l2 _)
  · intro i hi
    have hb := h.bnd i hi
    unfold noX updL
    split
    · subst_vars
      exact ⟨hb.1, by have := le_maxI_r (X i - 1) (M i + 1); omega, maxI_le (by omega) (by omega)⟩
    · exact hb
theorem PL.same {w0 wr w1 : World} {a b1 b2 : Nat} {M X : Nat → Int} (h : PL w0 wr a b1 b2 M X) (hl : LeadAt w1 a M X) (ho : OnlyA a wr w1) : PL w0 w1 a b1 b2 M X :=
  ⟨h.la, h.l1, h.l2, h.n1, h.n2, h.n3, hl, (ho.2.2 b1 (lt_heap h.m) (Ne.symm h.n1)).trans h.m, (ho.2.2 b2 (lt_heap h.x) (Ne.symm h.n2)).trans h.x, ho.below h.below h.la, h.bnd⟩
theorem PL.yes {w0 wr w1 : World} {a b1 b2 : Nat} {M X : Nat → Int} (h : PL w0 wr a b1 b2 M X) (k : Nat) (hk : k < 3) (at_ : Int) (h0 : 0 ≤ at_) (h1 : at_ ≤ 63) (hlt : ¬ at_ ≤ M k) (hl : LeadAt w1 a (yesM M k at_) (yesX M X k at_)) (ho : OnlyA a wr w1) :
    PL w0 ((w1.setCell ⟨b1, k, none⟩ (.int .i64 at_)).setCell ⟨b2, k, none⟩ (.int .i64 (maxI (X k) (at_ + 1)))).drew a b1 b2 (yesM M k at_) (yesX M X k at_) := by
  have hm1 := (ho.2.2 b1 (lt_heap h.m) (Ne.symm h.n1)).trans h.m
  have hx1 := (ho.2.2 b2 (lt_heap h.x) (Ne.symm h.n2)).trans h.x
  refine ⟨h.la, h.l1, h.l2, h.n1, h.n2, h.n3, ?_, ?_, ?_, ?_, ?_⟩
  · exact (heap_setCell_other _ _ _ _ h.n2).trans ((heap_setCell_other _ _ _ _ h.n1).trans hl)
  · exact (heap_setCell_other _ _ _ _ h.n3).trans ((heap_setCell_same _ _ _ _ _ _ hm1).trans (by rw [arr3_set M k hk]; unfold yesM; rw [if_neg hlt]))
  · exact (heap_setCell_same _ _ _ _ _ _ ((heap_setCell_other _ _ _ _ (Ne.symm h.n3)).trans hx1)).trans (by rw [arr3_set X k hk]; unfold yesX; rw [if_neg hlt])
  · exact below_drew' (((ho.below h.below h.la).setCell (p := ⟨b1, k, none⟩) h.l1 _).setCell (p := ⟨b2, k, none⟩) h.l2 _)
  · intro i hi
    have hb := h.bnd i hi
    unfold yesM yesX
    rw [if_neg hlt, if_neg hlt]
    unfold updL
    split
    · subst_vars
      exact ⟨h0, by have := le_maxI_r (X i) (at_ + 1); omega, maxI_le (by omega) (by omega)⟩
    · exact hb
theorem PL.cells {w0 wr : World} {a b1 b2 : Nat} {M X : Nat → Int} (h : PL w0 wr a b1 b2 M X) (k : Nat) (hk : k < 3) : wr.cell? ⟨b1, k, none⟩ = some (.int .i64 (M k)) ∧ wr.cell? ⟨b2, k, none⟩ = some (.int .i64 (X k)) ∧ wr.frozen? ⟨b1, k, none⟩ = false ∧ wr.frozen? ⟨b2, k, none⟩ = false :=
  ⟨cell_at h.m k (arr3_at M k hk), cell_at h.x k (arr3_at X k hk), frz_at h.m k, frz_at h.x k⟩
end Go.Proofs.Ytadejhlljdcocaa
