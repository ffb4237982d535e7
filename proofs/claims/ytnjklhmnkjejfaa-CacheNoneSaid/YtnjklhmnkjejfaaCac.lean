/-
  A cache in memory: its arc, its map of items.
-/
import Derived.Test.YtnjklhmnkjejfaaArcC
import Derived.Test.YtnjklhmnkjejfaaSetC
import Derived.Test.YtnjklhmnkjejfaaItsA
import Derived.Maps.Own
namespace Go.Proofs.Ytnjklhmnkjejfaa
open Go.RowKit
open Go.Maps (Keyed)
set_option linter.unusedVariables false
set_option linter.unusedSimpArgs false

/-- an item of the map, as a datum: its version; items without data only -/
def itR : Value → Option (DataW Unit × List MemPlace)
  | .agg a => match a.toList with
    | [.int .u64 x, .string s] => if s.size = 0 then some (.lit (.int .u64 x), []) else none
    | _ => none
  | _ => none
theorem itR_mk (x : Int) : itR (.agg #[.int .u64 x, .string ⟨#[]⟩]) = some (.lit (.int .u64 x), []) := rfl
theorem itR_inv {v : Value} {x : Int} {ps : List MemPlace} (h : itR v = some (.lit (.int .u64 x), ps)) : v = .agg #[.int .u64 x, .string ⟨#[]⟩] := by
  unfold itR at h
  split at h
  · next a =>
    split at h
    · next y s e =>
      split at h
      · next hs =>
        simp only [Option.some.injEq, Prod.mk.injEq, DataW.lit.injEq, Lit.int.injEq, true_and] at h
        obtain ⟨rfl, -⟩ := h
        have h2 : s = ⟨#[]⟩ := by
          have : s.data.size = 0 := hs
          cases s with
          | mk d => simp at this; rw [this]
        have h3 : a = #[.int .u64 y, .string s] := by
          rw [← Array.toArray_toList (xs := a), e]
        rw [h3, h2]
      · cases h
    · cases h
  · cases h
/-- a block apart from an arc -/
structure ABlk (w : World) (a : Nat) (V : Nat → Value) (X : Nat) (o : Obj) : Prop where
  at_ : w.heap[X]? = some o
  ne : X ≠ a
  nr : ∀ i, i < 4 → some X ≠ (V i).ownBlock
theorem ABlk.below {w w' : World} {a : Nat} {V : Nat → Value} {X : Nat} {o : Obj} (h : ABlk w a V X o) (hb : Below w.heap.size w w') : ABlk w' a V X o := ⟨below_at hb (lt_heap h.at_) h.at_, h.ne, h.nr⟩
theorem apart_step {w w' : World} {N a : Nat} {V V' : Nat → Value} {X : Nat} (hlt : X < w.heap.size) (hr : ∀ i, i < 4 → some X ≠ (V i).ownBlock) (hk : ArcKept w w' N a V V') : ∀ i, i < 4 → some X ≠ (V' i).ownBlock := by
  intro i hi e
  rcases hk.new i hi X e.symm with ⟨j, hj, q⟩ | q
  · exact hr j hj q.symm
  · omega
theorem ABlk.step {w w' : World} {N a : Nat} {V V' : Nat → Value} {X : Nat} {o : Obj} (h : ABlk w a V X o) (hk : ArcKept w w' N a V V') : ABlk w' a V' X o :=
  ⟨(hk.block X (lt_heap h.at_) h.ne h.nr).trans h.at_, h.ne, apart_step (lt_heap h.at_) h.nr hk⟩
structure CacheSt (w : World) (N C a mp : Nat) (R : Int) (V : Nat → Value) (L : Nat → List Int) (n : Nat) (D : DataW Unit) : Prop where
  arc : ArcAt w N a R 0 V L
  cac : ABlk w a V C (.cells #[.pointer (some ⟨a, 0, none⟩), .map (some mp)] 51)
  map : w.ownsMap Try.prog 3 itR mp n D
  ma : mp ≠ a
  mr : ∀ i, i < 4 → some mp ≠ (V i).ownBlock
  mc : mp ≠ C
theorem map_kept {w w' : World} {mp n : Nat} {D : DataW Unit} (h : w.ownsMap Try.prog 3 itR mp n D) (e : w'.heap[mp]? = w.heap[mp]?) : w'.ownsMap Try.prog 3 itR mp n D := by
  obtain ⟨es, clock, hb, F⟩ := h
  exact ⟨es, clock, e.trans hb, F⟩
theorem CacheSt.below {w w' : World} {N C a mp : Nat} {R : Int} {V : Nat → Value} {L : Nat → List Int} {n : Nat} {D : DataW Unit} (h : CacheSt w N C a mp R V L n D) (hb : Below w.heap.size w w') : CacheSt w' N C a mp R V L n D :=
  ⟨h.arc.below hb, h.cac.below hb, map_kept h.map (hb.block mp h.map.lt), h.ma, h.mr, h.mc⟩
theorem CacheSt.step {w w' : World} {N C a mp : Nat} {R : Int} {V V' : Nat → Value} {L L' : Nat → List Int} {n : Nat} {D : DataW Unit} (h : CacheSt w N C a mp R V L n D) (hA : ArcAt w' N a R 0 V' L') (hk : ArcKept w w' N a V V') : CacheSt w' N C a mp R V' L' n D :=
  ⟨hA, h.cac.step hk, map_kept h.map (hk.block mp h.map.lt h.ma h.mr), h.ma, apart_step h.map.lt h.mr hk, h.mc⟩
theorem CacheSt.put {w w' : World} {N C a mp : Nat} {R : Int} {V : Nat → Value} {L : Nat → List Int} {n n' : Nat} {D D' : DataW Unit} (h : CacheSt w N C a mp R V L n D) (hm : w'.ownsMap Try.prog 3 itR mp n' D') (hg : w.grownBy w' (some mp)) : CacheSt w' N C a mp R V L n' D' :=
  ⟨⟨h.arc.low, (hg.block a (lt_heap h.arc.obj) (fun e => h.ma (Option.some.inj e).symm)).trans h.arc.obj, fun i hi => (h.arc.row i hi).kept fun g e => hg.block g ((h.arc.row i hi).lt g e) (fun q => h.mr i hi (by rw [← q]; exact e.symm)), h.arc.dis⟩,
   ⟨(hg.block C (lt_heap h.cac.at_) (fun e => h.mc (Option.some.inj e).symm)).trans h.cac.at_, h.cac.ne, h.cac.nr⟩, hm, h.ma, h.mr, h.mc⟩
theorem CacheSt.cellw {w : World} {N C a mp X i : Nat} {R : Int} {V : Nat → Value} {L : Nat → List Int} {n : Nat} {D : DataW Unit} (h : CacheSt w N C a mp R V L n D) (hXa : X ≠ a) (hX : ∀ j, j < 4 → some X ≠ (V j).ownBlock) (hXC : X ≠ C) (hXm : X ≠ mp) (v : Value) : CacheSt (w.setCell ⟨X, i, none⟩ v) N C a mp R V L n D :=
  ⟨⟨h.arc.low, (heap_setCell_other _ _ _ _ (Ne.symm hXa)).trans h.arc.obj, fun j hj => (h.arc.row j hj).kept fun g e => heap_setCell_other _ _ _ _ (fun q => hX j hj (by rw [e]; exact congrArg some q.symm)), h.arc.dis⟩,
   ⟨(heap_setCell_other _ _ _ _ (Ne.symm hXC)).trans h.cac.at_, h.cac.ne, h.cac.nr⟩, map_kept h.map (heap_setCell_other _ _ _ _ (Ne.symm hXm)), h.ma, h.mr, h.mc⟩
theorem CacheSt.cell {w : World} {N C a mp : Nat} {R : Int} {V : Nat → Value} {L : Nat → List Int} {n : Nat} {D : DataW Unit} (h : CacheSt w N C a mp R V L n D) : w.cell? ⟨C, 0, none⟩ = some (.pointer (some ⟨a, 0, none⟩)) ∧ w.cell? ⟨C, 1, none⟩ = some (.map (some mp)) := by
  have hc := h.cac.at_
  exact ⟨by simp [World.cell?, hc], by simp [World.cell?, hc]⟩
theorem keyI : Keyed Try.prog 3 := Go.Maps.int_keyed Try.underlying3
theorem CacheSt.store {w : World} {N C a mp : Nat} {R : Int} {V : Nat → Value} {L : Nat → List Int} {n : Nat} {D : DataW Unit} (h : CacheSt w N C a mp R V L n D) (hn : n < 1000) (b x : Int) (hb : (Lit.int .i64 b).wf = true) :
    ∃ w', (Instr.mapUpdate 49 (.map (some mp)) (.int .i64 b) (.agg #[.int .u64 x, .string ⟨#[]⟩])).run Try.prog w = .ok () w' ∧ CacheSt w' N C a mp R V L (n + 1) (D.put (.int .i64 b) (.lit (.int .u64 x))) ∧ w.grownBy w' (some mp) := by
  obtain ⟨w', h1, h2, h3⟩ := h.map.update keyI Try.underlying49 (Nat.lt_trans hn (by decide)) (Go.Maps.keyOf_int_mk Try.underlying3 hb) (itR_mk x)
  exact ⟨w', h1, h.put h2 h3, h3⟩
theorem CacheSt.look {w : World} {N C a mp : Nat} {R : Int} {V : Nat → Value} {L : Nat → List Int} {n : Nat} {D : DataW Unit} (h : CacheSt w N C a mp R V L n D) (b x : Int) (hb : (Lit.int .i64 b).wf = true) (hx : D.atKey (.int .i64 b) (.lit (.int .u64 0)) = .lit (.int .u64 x)) :
    (Instr.lookup 49 (.map (some mp)) (.int .i64 b) false).run Try.prog w = .ok (.agg #[.int .u64 x, .string ⟨#[]⟩]) w := by
  obtain ⟨v, ps, h1, h2⟩ := h.map.lookup keyI Try.underlying49 (z := .agg #[.int .u64 0, .string ⟨#[]⟩]) (by kernel_rfl) (itR_mk 0) (Go.Maps.keyOf_int_mk Try.underlying3 hb)
  rw [hx] at h2
  rw [itR_inv h2] at h1
  exact h1
theorem at_put (x : Int) : ((DataW.map [] : DataW Unit).put (.int .i64 3) (.lit (.int .u64 x))).atKey (.int .i64 3) (.lit (.int .u64 0)) = .lit (.int .u64 x) := by rfl
set_option maxHeartbeats 800000 in
theorem cnewA0 (w : World) : Calls Try.prog 9 #[.int .i64 0] w fun e w' => ∃ C a mp, e = .returned (.pointer (some ⟨C, 0, none⟩)) ∧ CacheSt w' w.heap.size C a mp 0 (fun _ => .slice none 0 0) (fun _ => []) 0 (.map []) ∧ w.heap.size ≤ mp ∧ Below w.heap.size w w' := by
  have hb0 := (Below.refl w.heap.size w).alloc (Nat.le_refl _) (.cells (arcC 0 0 (fun _ => .slice none 0 0)) 74)
  have hz : (w.alloc (.cells (arcC 0 0 (fun _ => .slice none 0 0)) 74)).heap.size = w.heap.size + 1 := by simp
  have hA := arc_new w 0
  have hmm := @run_makeMap Try.prog
  go_enter Try.func9, Try.ntmps9
  go_wp2_with fail
  refine Calls.mono (anewA0 _) ?_
  rintro e w1 ⟨rfl, rfl⟩
  generalize w.alloc (.cells (arcC 0 0 (fun _ => .slice none 0 0)) 74) = w1 at *
  go_wp2_with fail
  go_ret
  have hb1 := hb0.alloc hb0.size (.map #[] 0)
  have hM := World.ownsMap_made (H := Unit) w1 Try.prog 3 itR
  have hA1 := hA.below ((Below.refl _ _).alloc (Nat.le_refl _) (.map #[] 0))
  generalize hw2 : w1.alloc (.map #[] 0) = w2 at *
  have hs : w2.heap.size = w.heap.size + 1 + 1 := by rw [← hw2, ← hz]; simp
  rw [← hs]
  rw [hz] at hM
  exact ⟨w2.heap.size, w.heap.size, w.heap.size + 1, rfl, ⟨hA1.below ((Below.refl _ _).alloc (Nat.le_refl _) _), ⟨heap_alloc_self _ _, by omega, (fun _ _ e => by cases e)⟩, hM.alloc _, by omega, (fun _ _ e => by cases e), by omega⟩, by omega, hb1.alloc hb1.size _⟩
set_option maxHeartbeats 800000 in
theorem cnewA2 (w : World) : Calls Try.prog 9 #[.int .i64 2] w fun e w' => ∃ C a mp, e = .returned (.pointer (some ⟨C, 0, none⟩)) ∧ CacheSt w' w.heap.size C a mp 2 (fun _ => .slice none 0 0) (fun _ => []) 0 (.map []) ∧ w.heap.size ≤ mp ∧ Below w.heap.size w w' := by
  have hb0 := (Below.refl w.heap.size w).alloc (Nat.le_refl _) (.cells (arcC 2 0 (fun _ => .slice none 0 0)) 74)
  have hz : (w.alloc (.cells (arcC 2 0 (fun _ => .slice none 0 0)) 74)).heap.size = w.heap.size + 1 := by simp
  have hA := arc_new w 2
  have hmm := @run_makeMap Try.prog
  go_enter Try.func9, Try.ntmps9
  go_wp2_with fail
  refine Calls.mono (anewA2 _) ?_
  rintro e w1 ⟨rfl, rfl⟩
  generalize w.alloc (.cells (arcC 2 0 (fun _ => .slice none 0 0)) 74) = w1 at *
  go_wp2_with fail
  go_ret
  have hb1 := hb0.alloc hb0.size (.map #[] 0)
  have hM := World.ownsMap_made (H := Unit) w1 Try.prog 3 itR
  have hA1 := hA.below ((Below.refl _ _).alloc (Nat.le_refl _) (.map #[] 0))
  generalize hw2 : w1.alloc (.map #[] 0) = w2 at *
  have hs : w2.heap.size = w.heap.size + 1 + 1 := by rw [← hw2, ← hz]; simp
  rw [← hs]
  rw [hz] at hM
  exact ⟨w2.heap.size, w.heap.size, w.heap.size + 1, rfl, ⟨hA1.below ((Below.refl _ _).alloc (Nat.le_refl _) _), ⟨heap_alloc_self _ _, by omega, (fun _ _ e => by cases e)⟩, hM.alloc _, by omega, (fun _ _ e => by cases e), by omega⟩, by omega, hb1.alloc hb1.size _⟩
theorem carcA (w : World) (C : Nat) (v : Value) (d0 : w.cell? ⟨C, 0, none⟩ = some v) : Calls Try.prog 12 #[.pointer (some ⟨C, 0, none⟩)] w fun e w' => e = .returned v ∧ w = w' := by
  go_enter Try.func12, Try.ntmps12
  go_wp2_with fail
  go_ret
  exact ⟨rfl, rfl⟩
end Go.Proofs.Ytnjklhmnkjejfaa
