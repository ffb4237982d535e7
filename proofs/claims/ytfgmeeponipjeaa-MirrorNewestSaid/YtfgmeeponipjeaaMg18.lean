/-
  Several texts, laid together.
-/
import Derived.Test.YtfgmeeponipjeaaMg3
import Derived.Test.YtfgmeeponipjeaaMg16
import Derived.Test.YtfgmeeponipjeaaMg17
import Derived.Maps.Own
import Derived.Test.YtfgmeeponipjeaaMg6
import Derived.Maps.OwnSet
import Derived.Maps.Views
/-
  A cache in memory: its arc, its map of items.
-/




namespace Go.Proofs.Ytfgmeeponipjeaa
open Go.RowKit
open Go.Maps (Keyed)
set_option linter.unusedVariables false
set_option linter.unusedSimpArgs false

/-- an item of the map, as a datum: its version; items without data only -/
def itR : Value → Option (DataW Unit × List MemPlace)
  | .agg a => match a.toList with
    | [.int .u64 x, .string s] => if s.size = 0 then some (.lit (.int .u64 x), []) else none
    | _ => none
  | _ => none
theorem itR_mk (x : Int) : itR (.agg #[.int .u64 x, .string ⟨#[]⟩]) = some (.lit (.int .u64 x), []) := rfl
theorem itR_inv {v : Value} {x : Int} {ps : List MemPlace} (h : itR v = some (.lit (.int .u64 x), ps)) : v = .agg #[.int .u64 x, .string ⟨#[]⟩] := by
  unfold itR at h
  split at h
  · next a =>
    split at h
    · next y s e =>
      split at h
      · next hs =>
        simp only [Option.some.injEq, Prod.mk.injEq, DataW.lit.injEq, Lit.int.injEq, true_and] at h
        obtain ⟨rfl, -⟩ := h
        have h2 : s = ⟨#[]⟩ := by
          have : s.data.size = 0 := hs
          cases s with
          | mk d => simp at this; rw [this]
        have h3 : a = #[.int .u64 y, .string s] := by
          rw [← Array.toArray_toList (xs := a), e]
        rw [h3, h2]
      · cases h
    · cases h
  · cases h
/-- a block apart from an arc -/
structure ABlk (w : World) (a : Nat) (V : Nat → Value) (X : Nat) (o : Obj) : Prop where
  at_ : w.heap[X]? = some o
  ne : X ≠ a
  nr : ∀ i, i < 4 → some X ≠ (V i).ownBlock
theorem ABlk.below {w w' : World} {a : Nat} {V : Nat → Value} {X : Nat} {o : Obj} (h : ABlk w a V X o) (hb : Below w.heap.size w w') : ABlk w' a V X o := ⟨below_at hb (lt_heap h.at_) h.at_, h.ne, h.nr⟩
theorem apart_step {w w' : World} {N a : Nat} {V V' : Nat → Value} {X : Nat} (hlt : X < w.heap.size) (hr : ∀ i, i < 4 → some X ≠ (V i).ownBlock) (hk : ArcKept w w' N a V V') : ∀ i, i < 4 → some X ≠ (V' i).ownBlock := by
  intro i hi e
  rcases hk.new i hi X e.symm with ⟨j, hj, q⟩ | q
  · exact hr j hj q.symm
  · omega
theorem ABlk.step {w w' : World} {N a : Nat} {V V' : Nat → Value} {X : Nat} {o : Obj} (h : ABlk w a V X o) (hk : ArcKept w w' N a V V') : ABlk w' a V' X o :=
  ⟨(hk.block X (lt_heap h.at_) h.ne h.nr).trans h.at_, h.ne, apart_step (lt_heap h.at_) h.nr hk⟩
structure CacheSt (w : World) (N C a mp : Nat) (R : Int) (V : Nat → Value) (L : Nat → List Int) (n : Nat) (D : DataW Unit) : Prop where
  arc : ArcAt w N a R 0 V L
  cac : ABlk w a V C (.cells #[.pointer (some ⟨a, 0, none⟩), .map (some mp)] 127)
  map : w.ownsMap Try.prog 3 itR mp n D
  ma : mp ≠ a
  mr : ∀ i, i < 4 → some mp ≠ (V i).ownBlock
  mc : mp ≠ C
theorem map_kept {w w' : World} {mp n : Nat} {D : DataW Unit} (h : w.ownsMap Try.prog 3 itR mp n D) (e : w'.heap[mp]? = w.heap[mp]?) : w'.ownsMap Try.prog 3 itR mp n D := by
  obtain ⟨es, clock, hb, F⟩ := h
  exact ⟨es, clock, e.trans hb, F⟩
theorem CacheSt.below {w w' : World} {N C a mp : Nat} {R : Int} {V : Nat → Value} {L : Nat → List Int} {n : Nat} {D : DataW Unit} (h : CacheSt w N C a mp R V L n D) (hb : Below w.heap.size w w') : CacheSt w' N C a mp R V L n D :=
  ⟨h.arc.below hb, h.cac.below hb, map_kept h.map (hb.block mp h.map.lt), h.ma, h.mr, h.mc⟩
theorem CacheSt.step {w w' : World} {N C a mp : Nat} {R : Int} {V V' : Nat → Value} {L L' : Nat → List Int} {n : Nat} {D : DataW Unit} (h : CacheSt w N C a mp R V L n D) (hA : ArcAt w' N a R 0 V' L') (hk : ArcKept w w' N a V V') : CacheSt w' N C a mp R V' L' n D :=
  ⟨hA, h.cac.step hk, map_kept h.map (hk.block mp h.map.lt h.ma h.mr), h.ma, apart_step h.map.lt h.mr hk, h.mc⟩
theorem CacheSt.put {w w' : World} {N C a mp : Nat} {R : Int} {V : Nat → Value} {L : Nat → List Int} {n n' : Nat} {D D' : DataW Unit} (h : CacheSt w N C a mp R V L n D) (hm : w'.ownsMap Try.prog 3 itR mp n' D') (hg : w.grownBy w' (some mp)) : CacheSt w' N C a mp R V L n' D' :=
  ⟨⟨h.arc.low, (hg.block a (lt_heap h.arc.obj) (fun e => h.ma (Option.some.inj e).symm)).trans h.arc.obj, fun i hi => (h.arc.row i hi).kept fun g e => hg.block g ((h.arc.row i hi).lt g e) (fun q => h.mr i hi (by rw [← q]; exact e.symm)), h.arc.dis⟩,
   ⟨(hg.block C (lt_heap h.cac.at_) (fun e => h.mc (Option.some.inj e).symm)).trans h.cac.at_, h.cac.ne, h.cac.nr⟩, hm, h.ma, h.mr, h.mc⟩
theorem CacheSt.cellw {w : World} {N C a mp X i : Nat} {R : Int} {V : Nat → Value} {L : Nat → List Int} {n : Nat} {D : DataW Unit} (h : CacheSt w N C a mp R V L n D) (hXa : X ≠ a) (hX : ∀ j, j < 4 → some X ≠ (V j).ownBlock) (hXC : X ≠ C) (hXm : X ≠ mp) (v : Value) : CacheSt (w.setCell ⟨X, i, none⟩ v) N C a mp R V L n D :=
  ⟨⟨h.arc.low, (heap_setCell_other _ _ _ _ (Ne.symm hXa)).trans h.arc.obj, fun j hj => (h.arc.row j hj).kept fun g e => heap_setCell_other _ _ _ _ (fun q => hX j hj (by rw [e]; exact congrArg some q.symm)), h.arc.dis⟩,
   ⟨(heap_setCell_other _ _ _ _ (Ne.symm hXC)).trans h.cac.at_, h.cac.ne, h.cac.nr⟩, map_kept h.map (heap_setCell_other _ _ _ _ (Ne.symm hXm)), h.ma, h.mr, h.mc⟩
theorem CacheSt.cell {w : World} {N C a mp : Nat} {R : Int} {V : Nat → Value} {L : Nat → List Int} {n : Nat} {D : DataW Unit} (h : CacheSt w N C a mp R V L n D) : w.cell? ⟨C, 0, none⟩ = some (.pointer (some ⟨a, 0, none⟩)) ∧ w.cell? ⟨C, 1, none⟩ = some (.map (some mp)) := by
  have hc := h.cac.at_
  exact ⟨by simp [World.cell?, hc], by simp [World.cell?, hc]⟩
theorem keyI : Keyed Try.prog 3 := Go.Maps.int_keyed Try.underlying3
theorem CacheSt.store {w : World} {N C a mp : Nat} {R : Int} {V : Nat → Value} {L : Nat → List Int} {n : Nat} {D : DataW Unit} (h : CacheSt w N C a mp R V L n D) (hn : n < 1000) (b x : Int) (hb : (Lit.int .i64 b).wf = true) :
    ∃ w', (Instr.mapUpdate 125 (.map (some mp)) (.int .i64 b) (.agg #[.int .u64 x, .string ⟨#[]⟩])).run Try.prog w = .ok () w' ∧ CacheSt w' N C a mp R V L (n + 1) (D.put (.int .i64 b) (.lit (.int .u64 x))) ∧ w.grownBy w' (some mp) := by
  obtain ⟨w', h1, h2, h3⟩ := h.map.update keyI Try.underlying125 (Nat.lt_trans hn (by decide)) (Go.Maps.keyOf_int_mk Try.underlying3 hb) (itR_mk x)
  exact ⟨w', h1, h.put h2 h3, h3⟩
theorem CacheSt.look {w : World} {N C a mp : Nat} {R : Int} {V : Nat → Value} {L : Nat → List Int} {n : Nat} {D : DataW Unit} (h : CacheSt w N C a mp R V L n D) (b x : Int) (hb : (Lit.int .i64 b).wf = true) (hx : D.atKey (.int .i64 b) (.lit (.int .u64 0)) = .lit (.int .u64 x)) :
    (Instr.lookup 125 (.map (some mp)) (.int .i64 b) false).run Try.prog w = .ok (.agg #[.int .u64 x, .string ⟨#[]⟩]) w := by
  obtain ⟨v, ps, h1, h2⟩ := h.map.lookup keyI Try.underlying125 (z := .agg #[.int .u64 0, .string ⟨#[]⟩]) (by kernel_rfl) (itR_mk 0) (Go.Maps.keyOf_int_mk Try.underlying3 hb)
  rw [hx] at h2
  rw [itR_inv h2] at h1
  exact h1
theorem at_put (x : Int) : ((DataW.map [] : DataW Unit).put (.int .i64 3) (.lit (.int .u64 x))).atKey (.int .i64 3) (.lit (.int .u64 0)) = .lit (.int .u64 x) := by rfl
set_option maxHeartbeats 800000 in
theorem cnewA0 (w : World) : Calls Try.prog 48 #[.int .i64 0] w fun e w' => ∃ C a mp, e = .returned (.pointer (some ⟨C, 0, none⟩)) ∧ CacheSt w' w.heap.size C a mp 0 (fun _ => .slice none 0 0) (fun _ => []) 0 (.map []) ∧ w.heap.size ≤ mp ∧ Below w.heap.size w w' := by
  have hb0 := (Below.refl w.heap.size w).alloc (Nat.le_refl _) (.cells (arcC 0 0 (fun _ => .slice none 0 0)) 142)
  have hz : (w.alloc (.cells (arcC 0 0 (fun _ => .slice none 0 0)) 142)).heap.size = w.heap.size + 1 := by simp
  have hA := arc_new w 0
  have hmm := @run_makeMap Try.prog
  go_enter Try.func48, Try.ntmps48
  go_wp2_with fail
  refine Calls.mono (anewA0 _) ?_
  rintro e w1 ⟨rfl, rfl⟩
  generalize w.alloc (.cells (arcC 0 0 (fun _ => .slice none 0 0)) 142) = w1 at *
  go_wp2_with fail
  go_ret
  have hb1 := hb0.alloc hb0.size (.map #[] 0)
  have hM := World.ownsMap_made (H := Unit) w1 Try.prog 3 itR
  have hA1 := hA.below ((Below.refl _ _).alloc (Nat.le_refl _) (.map #[] 0))
  generalize hw2 : w1.alloc (.map #[] 0) = w2 at *
  have hs : w2.heap.size = w.heap.size + 1 + 1 := by rw [← hw2, ← hz]; simp
  rw [← hs]
  rw [hz] at hM
  exact ⟨w2.heap.size, w.heap.size, w.heap.size + 1, rfl, ⟨hA1.below ((Below.refl _ _).alloc (Nat.le_refl _) _), ⟨heap_alloc_self _ _, by omega, (fun _ _ e => by cases e)⟩, hM.alloc _, by omega, (fun _ _ e => by cases e), by omega⟩, by omega, hb1.alloc hb1.size _⟩
set_option maxHeartbeats 800000 in
theorem cnewA2 (w : World) : Calls Try.prog 48 #[.int .i64 2] w fun e w' => ∃ C a mp, e = .returned (.pointer (some ⟨C, 0, none⟩)) ∧ CacheSt w' w.heap.size C a mp 2 (fun _ => .slice none 0 0) (fun _ => []) 0 (.map []) ∧ w.heap.size ≤ mp ∧ Below w.heap.size w w' := by
  have hb0 := (Below.refl w.heap.size w).alloc (Nat.le_refl _) (.cells (arcC 2 0 (fun _ => .slice none 0 0)) 142)
  have hz : (w.alloc (.cells (arcC 2 0 (fun _ => .slice none 0 0)) 142)).heap.size = w.heap.size + 1 := by simp
  have hA := arc_new w 2
  have hmm := @run_makeMap Try.prog
  go_enter Try.func48, Try.ntmps48
  go_wp2_with fail
  refine Calls.mono (anewA2 _) ?_
  rintro e w1 ⟨rfl, rfl⟩
  generalize w.alloc (.cells (arcC 2 0 (fun _ => .slice none 0 0)) 142) = w1 at *
  go_wp2_with fail
  go_ret
  have hb1 := hb0.alloc hb0.size (.map #[] 0)
  have hM := World.ownsMap_made (H := Unit) w1 Try.prog 3 itR
  have hA1 := hA.below ((Below.refl _ _).alloc (Nat.le_refl _) (.map #[] 0))
  generalize hw2 : w1.alloc (.map #[] 0) = w2 at *
  have hs : w2.heap.size = w.heap.size + 1 + 1 := by rw [← hw2, ← hz]; simp
  rw [← hs]
  rw [hz] at hM
  exact ⟨w2.heap.size, w.heap.size, w.heap.size + 1, rfl, ⟨hA1.below ((Below.refl _ _).alloc (Nat.le_refl _) _), ⟨heap_alloc_self _ _, by omega, (fun _ _ e => by cases e)⟩, hM.alloc _, by omega, (fun _ _ e => by cases e), by omega⟩, by omega, hb1.alloc hb1.size _⟩
theorem carcA (w : World) (C : Nat) (v : Value) (d0 : w.cell? ⟨C, 0, none⟩ = some v) : Calls Try.prog 79 #[.pointer (some ⟨C, 0, none⟩)] w fun e w' => e = .returned v ∧ w = w' := by
  go_enter Try.func79, Try.ntmps79
  go_wp2_with fail
  go_ret
  exact ⟨rfl, rfl⟩
end Go.Proofs.Ytfgmeeponipjeaa
/-
  A cache with room for four, whatever it holds; blocks told apart by what they hold.
-/




namespace Go.Proofs.Ytfgmeeponipjeaa
open Go.RowKit
open Go.Maps (Keyed)
set_option linter.unusedVariables false
set_option linter.unusedSimpArgs false

/-- what may turn: objects of which P holds; the others stay -/
def Keep (P : Obj → Bool) (w w' : World) : Prop := ∀ (j : Nat) (o : Obj), w.heap[j]? = some o → P o = false → w'.heap[j]? = some o
theorem Keep.refl (P : Obj → Bool) (w : World) : Keep P w w := fun _ _ h _ => h
theorem Keep.trans {P : Obj → Bool} {x y z : World} (h : Keep P x y) (k : Keep P y z) : Keep P x z := fun j o a b => k j o (h j o a b) b
theorem Keep.below {P : Obj → Bool} {w w' : World} (h : Below w.heap.size w w') : Keep P w w' := fun j o a _ => below_at h (lt_heap a) a
def cachP : Obj → Bool | .cells _ t _ => t == 142 || t == 3 | .map _ _ => true | _ => false
def setP : Obj → Bool | .cells _ t _ => t == 122 || t == 131 | _ => false
def mirP : Obj → Bool | .cells _ t _ => t == 100 | _ => false
def allP : Obj → Bool := fun o => cachP o || setP o || mirP o
theorem Keep.mono {P Q : Obj → Bool} {w w' : World} (h : Keep P w w') (hq : ∀ o, P o = true → Q o = true) : Keep Q w w' := fun j o a b => h j o a (by
  cases e : P o
  · rfl
  · rw [hq o e] at b; cases b)
theorem cach_all {o : Obj} (h : cachP o = true) : allP o = true := by simp [allP, h]
theorem set_all {o : Obj} (h : setP o = true) : allP o = true := by simp [allP, h]
theorem mir_all {o : Obj} (h : mirP o = true) : allP o = true := by simp [allP, h]
theorem RowAt.ob {w : World} {N g : Nat} {v : Value} {l : List Int} (h : RowAt w N v l) (e : v.ownBlock = some g) : ∃ c, w.heap[g]? = some (.cells c 3) := by
  rcases h with ⟨rfl, rfl⟩ | ⟨b, cap, f, rfl, hg, ⟨c, hc, _⟩, _⟩
  · cases e
  · injection e with e
    subst e
    exact ⟨c, hc⟩
theorem ArcAt.keep {P : Obj → Bool} {w w' : World} {N a : Nat} {R W : Int} {V : Nat → Value} {L : Nat → List Int} (h : ArcAt w N a R W V L) (k : Keep P w w') (h1 : ∀ c, P (.cells c 142) = false) (h2 : ∀ c, P (.cells c 3) = false) : ArcAt w' N a R W V L :=
  ⟨h.low, k a _ h.obj (h1 _), fun i hi => (h.row i hi).kept fun g e => by
    obtain ⟨c, hc⟩ := (h.row i hi).ob e
    exact (k g _ hc (h2 _)).trans hc.symm, h.dis⟩
theorem arc_keep {w w' : World} {N a : Nat} {R W : Int} {V V' : Nat → Value} {L : Nat → List Int} (h : ArcAt w N a R W V L) (hk : ArcKept w w' N a V V') : Keep cachP w w' := fun j o hj hp => by
  refine (hk.block j (lt_heap hj) (fun e => ?_) (fun i hi e => ?_)).trans hj
  · subst e
    rw [h.obj] at hj
    obtain rfl := Option.some.inj hj
    simp [cachP] at hp
  · obtain ⟨c, hc⟩ := (h.row i hi).ob e.symm
    rw [hc] at hj
    obtain rfl := Option.some.inj hj
    simp [cachP] at hp
theorem map_keep {w w' : World} {mp : Nat} {es : Array MapEntry} {ck : Nat} (hb : w.heap[mp]? = some (.map es ck)) (hg : w.grownBy w' (some mp)) : Keep cachP w w' := fun j o hj hp => by
  refine (hg.block j (lt_heap hj) (fun e => ?_)).trans hj
  obtain rfl := Option.some.inj e
  rw [hb] at hj
  obtain rfl := Option.some.inj hj
  simp [cachP] at hp
theorem own_typeM {w : World} {base g : Nat} {e : TypeId} {size n : Nat} {v : Value} {xs : List Value} (h : w.ownsRow base e size v n xs) (hv : v.ownBlock = some g) : ∃ cur, w.heap[g]? = some (.cells cur e (0, 0)) := by
  rcases h.2 with ⟨rfl, -⟩ | ⟨b, cap, cur, rfl, hb, hg, -⟩
  · cases hv
  · injection hv with hv
    subst hv
    exact ⟨cur, hg⟩
theorem own_moveM {w w' : World} {base : Nat} {e : TypeId} {size n : Nat} {v : Value} {xs : List Value} (h : w.ownsRow base e size v n xs) (hk : ∀ g, v.ownBlock = some g → w'.heap[g]? = w.heap[g]?) : w'.ownsRow base e size v n xs := by
  refine ⟨h.1, ?_⟩
  rcases h.2 with hn | ⟨g, cap, cur, rfl, hb, hg, rest⟩
  · exact .inl hn
  · exact .inr ⟨g, cap, cur, rfl, hb, (hk g rfl).trans hg, rest⟩
theorem set_keepM {P : Obj → Bool} {w w' : World} {N p : Nat} {v : Value} {l : List HI} (h : SetAt w N p v l) (k : Keep P w w') (h1 : ∀ c, P (.cells c 122) = false) (h2 : ∀ c, P (.cells c 131) = false) : SetAt w' N p v l :=
  ⟨h.1, k p _ h.2.1 (h1 _), own_moveM h.2.2.1 fun g e => by
    obtain ⟨c, hc⟩ := own_typeM h.2.2.1 e
    exact (k g _ hc (h2 _)).trans hc.symm, h.2.2.2⟩
theorem set_turn {w w' : World} {N p : Nat} {v v' : Value} {l : List HI} (h : SetAt w N p v l) (hk : OKept w w' N p v v') : Keep setP w w' := fun j o hj hp => by
  refine (hk.block j (lt_heap hj) (fun e => ?_) (fun e => ?_)).trans hj
  · subst e
    rw [h.2.1] at hj
    obtain rfl := Option.some.inj hj
    simp [setP] at hp
  · obtain ⟨c, hc⟩ := own_typeM h.2.2.1 e.symm
    rw [hc] at hj
    obtain rfl := Option.some.inj hj
    simp [setP] at hp
/-- a cache with room for four -/
structure CacheW (w : World) (N C a mp : Nat) (W : Int) (V : Nat → Value) (L : Nat → List Int) (n : Nat) (D : DataW Unit) : Prop where
  arc : ArcAt w N a 4 W V L
  ai : AI 4 W L
  cac : w.heap[C]? = some (.cells #[.pointer (some ⟨a, 0, none⟩), .map (some mp)] 127)
  map : w.ownsMap Try.prog 3 itR mp n D
  low : N ≤ mp
  num : ∀ y, 0 < kc L y → 0 ≤ y ∧ y < 64
theorem CacheW.mob {w : World} {N C a mp : Nat} {W : Int} {V : Nat → Value} {L : Nat → List Int} {n : Nat} {D : DataW Unit} (h : CacheW w N C a mp W V L n D) : ∃ es ck, w.heap[mp]? = some (.map es ck) := by
  obtain ⟨es, ck, hb, -⟩ := h.map
  exact ⟨es, ck, hb⟩
theorem CacheW.keep {P : Obj → Bool} {w w' : World} {N C a mp : Nat} {W : Int} {V : Nat → Value} {L : Nat → List Int} {n : Nat} {D : DataW Unit} (h : CacheW w N C a mp W V L n D) (k : Keep P w w') (h1 : ∀ c, P (.cells c 142) = false) (h2 : ∀ c, P (.cells c 3) = false) (h3 : ∀ c, P (.cells c 127) = false) (h4 : ∀ es c, P (.map es c) = false) : CacheW w' N C a mp W V L n D := by
  obtain ⟨es, ck, hb⟩ := h.mob
  exact ⟨h.arc.keep k h1 h2, h.ai, k C _ h.cac (h3 _), map_kept h.map ((k mp _ hb (h4 _ _)).trans hb.symm), h.low, h.num⟩
theorem CacheW.below {w w' : World} {N C a mp : Nat} {W : Int} {V : Nat → Value} {L : Nat → List Int} {n : Nat} {D : DataW Unit} (h : CacheW w N C a mp W V L n D) (hb : Below w.heap.size w w') : CacheW w' N C a mp W V L n D :=
  h.keep (P := fun _ => false) (Keep.below hb) (fun _ => rfl) (fun _ => rfl) (fun _ => rfl) (fun _ _ => rfl)
theorem CacheW.le {w : World} {N C a mp : Nat} {W : Int} {V : Nat → Value} {L : Nat → List Int} {n : Nat} {D : DataW Unit} (h : CacheW w N C a mp W V L n D) : N ≤ w.heap.size := h.arc.le
/-- the arc turns -/
theorem CacheW.arcTo {w w' : World} {N C a mp : Nat} {W W' : Int} {V V' : Nat → Value} {L L' : Nat → List Int} {n : Nat} {D : DataW Unit} (h : CacheW w N C a mp W V L n D) (hA : ArcAt w' N a 4 W' V' L') (hi : AI 4 W' L') (hk : ArcKept w w' N a V V') (hn : ∀ y, 0 < kc L' y → 0 ≤ y ∧ y < 64) : CacheW w' N C a mp W' V' L' n D := by
  obtain ⟨es, ck, hb⟩ := h.mob
  refine ⟨hA, hi, arc_keep h.arc hk C _ h.cac (by simp [cachP]), map_kept h.map (hk.block mp h.map.lt (fun e => ?_) (fun i hi e => ?_)), h.low, hn⟩
  · subst e
    rw [h.arc.obj] at hb
    cases hb
  · obtain ⟨c, hc⟩ := (h.arc.row i hi).ob e.symm
    rw [hc] at hb
    cases hb
/-- the map turns -/
theorem CacheW.mapTo {w w' : World} {N C a mp : Nat} {W : Int} {V : Nat → Value} {L : Nat → List Int} {n n' : Nat} {D D' : DataW Unit} (h : CacheW w N C a mp W V L n D) (hm : w'.ownsMap Try.prog 3 itR mp n' D') (hg : w.grownBy w' (some mp)) : CacheW w' N C a mp W V L n' D' := by
  obtain ⟨es, ck, hb⟩ := h.mob
  have hne : ∀ {j : Nat} {c : Array Value} {t : TypeId}, w.heap[j]? = some (.cells c t) → some j ≠ some mp := fun {j c t} hj e => by
    obtain rfl := Option.some.inj e
    rw [hb] at hj
    cases hj
  refine ⟨⟨h.arc.low, (hg.block a (lt_heap h.arc.obj) (hne h.arc.obj)).trans h.arc.obj, fun i hi => (h.arc.row i hi).kept fun g e => ?_, h.arc.dis⟩, h.ai, (hg.block C (lt_heap h.cac) (hne h.cac)).trans h.cac, hm, h.low, h.num⟩
  obtain ⟨c, hc⟩ := (h.arc.row i hi).ob e
  exact hg.block g (lt_heap hc) (hne hc)
theorem CacheW.cell {w : World} {N C a mp : Nat} {W : Int} {V : Nat → Value} {L : Nat → List Int} {n : Nat} {D : DataW Unit} (h : CacheW w N C a mp W V L n D) : w.cell? ⟨C, 0, none⟩ = some (.pointer (some ⟨a, 0, none⟩)) ∧ w.cell? ⟨C, 1, none⟩ = some (.map (some mp)) := by
  have hc := h.cac
  exact ⟨by simp [World.cell?, hc], by simp [World.cell?, hc]⟩
/-- what the map has of a block -/
def dat (D : DataW Unit) (y : Int) : DataW Unit := D.atKey (.int .i64 y) (.lit (.int .u64 0))
theorem CacheW.store {w : World} {N C a mp : Nat} {W : Int} {V : Nat → Value} {L : Nat → List Int} {n : Nat} {D : DataW Unit} (h : CacheW w N C a mp W V L n D) (hn : n < 1000) (b x : Int) (hb : (Lit.int .i64 b).wf = true) :
    ∃ w', (Instr.mapUpdate 125 (.map (some mp)) (.int .i64 b) (.agg #[.int .u64 x, .string ⟨#[]⟩])).run Try.prog w = .ok () w' ∧ CacheW w' N C a mp W V L (n + 1) (D.put (.int .i64 b) (.lit (.int .u64 x))) ∧ Keep cachP w w' ∧ w.grownBy w' (some mp) := by
  obtain ⟨es, ck, hob⟩ := h.mob
  obtain ⟨w', h1, h2, h3⟩ := h.map.update keyI Try.underlying125 (Nat.lt_trans hn (by decide)) (Go.Maps.keyOf_int_mk Try.underlying3 hb) (itR_mk x)
  exact ⟨w', h1, h.mapTo h2 h3, map_keep hob h3, h3⟩
theorem CacheW.del {w : World} {N C a mp : Nat} {W : Int} {V : Nat → Value} {L : Nat → List Int} {n : Nat} {D : DataW Unit} (h : CacheW w N C a mp W V L n D) (b : Int) (hb : (Lit.int .i64 b).wf = true) (ty : TypeId) :
    ∃ w', (Builtin.delete_ #[125, 3] ty #[.map (some mp), .int .i64 b]).run Try.prog w = .ok (.tuple #[]) w' ∧ CacheW w' N C a mp W V L n (D.del (.int .i64 b)) ∧ Keep cachP w w' ∧ w.grownBy w' (some mp) := by
  obtain ⟨es, ck, hob⟩ := h.mob
  obtain ⟨w', h1, h2, h3⟩ := h.map.drop keyI Try.underlying125 (Go.Maps.keyOf_int_mk Try.underlying3 hb) ty
  exact ⟨w', h1, h.mapTo h2 h3.grown, map_keep hob h3.grown, h3.grown⟩
theorem CacheW.look {w : World} {N C a mp : Nat} {W : Int} {V : Nat → Value} {L : Nat → List Int} {n : Nat} {D : DataW Unit} (h : CacheW w N C a mp W V L n D) (b x : Int) (hb : (Lit.int .i64 b).wf = true) (hx : dat D b = .lit (.int .u64 x)) :
    (Instr.lookup 125 (.map (some mp)) (.int .i64 b) false).run Try.prog w = .ok (.agg #[.int .u64 x, .string ⟨#[]⟩]) w := by
  obtain ⟨v, ps, h1, h2⟩ := h.map.lookup keyI Try.underlying125 (z := .agg #[.int .u64 0, .string ⟨#[]⟩]) (by kernel_rfl) (itR_mk 0) (Go.Maps.keyOf_int_mk Try.underlying3 hb)
  unfold dat at hx
  rw [hx] at h2
  rw [itR_inv h2] at h1
  exact h1
theorem CacheW.isMap {w : World} {N C a mp : Nat} {W : Int} {V : Nat → Value} {L : Nat → List Int} {n : Nat} {D : DataW Unit} (h : CacheW w N C a mp W V L n D) : Go.Maps.IsMap D := h.map.isMap
theorem dat_put {D : DataW Unit} (hD : Go.Maps.IsMap D) (b x : Int) : dat (D.put (.int .i64 b) (.lit (.int .u64 x))) b = .lit (.int .u64 x) := Go.Maps.atKey_put_same hD (by trivial) _ _
theorem lit_ne {y b : Int} (h : y ≠ b) : (Lit.int .i64 y) ≠ .int .i64 b := fun e => h (by injection e)
theorem dat_put_other {D : DataW Unit} {b y x : Int} (h : y ≠ b) : dat (D.put (.int .i64 b) (.lit (.int .u64 x))) y = dat D y := Go.Maps.atKey_put_other (lit_ne h) _ _
theorem dat_del_other {D : DataW Unit} {b y : Int} (h : y ≠ b) : dat (D.del (.int .i64 b)) y = dat D y := Go.Maps.atKey_del_other (lit_ne h) _
end Go.Proofs.Ytfgmeeponipjeaa
/-
  No mirror; and the waking call of layer 24: a mirror with nothing kept.
-/


namespace Go.Proofs.Ytfgmeeponipjeaa
open Go.RowKit
set_option linter.unusedVariables false
set_option linter.unusedSimpArgs false

theorem index_nil (n : Int) (w : World) : Calls Try.prog 112 #[.slice none 0 0, .int .i64 n] w fun e w' => e = .returned (.int .i64 (-1)) ∧ w = w' := by
  go_enter Try.func112, Try.ntmps112
  go_wp2_with fail
  go_loopw [8] (fun i wr => i = .int .i64 0 ∧ wr = w) (fun _ _ => 0)
  case atStart => exact ⟨rfl, rfl⟩
  case round =>
    obtain ⟨rfl, rfl⟩ := hrel
    go_wp2_with fail
    go_ret
    exact ⟨rfl, rfl⟩
theorem contains_nil (n : Int) (w : World) : Calls Try.prog 115 #[.slice none 0 0, .int .i64 n] w fun e w' => e = .returned (.bool false) ∧ w = w' := by
  go_enter Try.func115, Try.ntmps115
  go_wp2_with fail
  refine Calls.mono (index_nil n _) ?_
  rintro e w1 ⟨rfl, rfl⟩
  go_wp2_with fail
  go_ret
  exact ⟨rfl, rfl⟩
theorem ohas_nil (g k : Nat) (n : Int) (w : World) (h : w.cell? ⟨g, k, none⟩ = some (.slice none 0 0)) : Calls Try.prog 98 #[.pointer (some ⟨g, k, none⟩), .int .i64 n] w fun e w' => e = .returned (.bool false) ∧ w = w' := by
  go_enter Try.func98, Try.ntmps98
  go_wp2_with fail
  refine Calls.mono (contains_nil n _) ?_
  rintro e w1 ⟨rfl, rfl⟩
  go_wp2_with fail
  go_ret
  exact ⟨rfl, rfl⟩
theorem odrop_nil (g k : Nat) (n : Int) (w : World) (h : w.cell? ⟨g, k, none⟩ = some (.slice none 0 0)) : Calls Try.prog 96 #[.pointer (some ⟨g, k, none⟩), .int .i64 n] w fun e w' => e = .returned (.bool false) ∧ w = w' := by
  go_enter Try.func96, Try.ntmps96
  go_wp2_with fail
  refine Calls.mono (ohas_nil g k n _ h) ?_
  rintro e w1 ⟨rfl, rfl⟩
  go_wp2_with fail
  go_ret
  exact ⟨rfl, rfl⟩
/-- what keeps nothing -/
def arcO : Obj := .cells #[.int .i64 2, .int .i64 0, .slice none 0 0, .slice none 0 0, .slice none 0 0, .slice none 0 0] 142
theorem anew (w : World) : Calls Try.prog 74 #[.int .i64 2] w fun e w' => e = .returned (.pointer (some ⟨w.heap.size, 0, none⟩)) ∧ w' = w.alloc arcO := by
  go_enter Try.func74, Try.ntmps74
  go_wp2_with fail
  go_ret
  exact ⟨rfl, rfl⟩
theorem adrop (a : Nat) (n : Int) (w : World) (h : w.heap[a]? = some arcO) : Calls Try.prog 80 #[.pointer (some ⟨a, 0, none⟩), .int .i64 n] w fun e w' => e = .returned (.bool false) ∧ w = w' := by
  unfold arcO at h
  have d2 : w.cell? ⟨a, 2, none⟩ = some (.slice none 0 0) := by simp [World.cell?, h]
  have d3 : w.cell? ⟨a, 3, none⟩ = some (.slice none 0 0) := by simp [World.cell?, h]
  clear h
  go_enter Try.func80, Try.ntmps80
  go_wp2_with fail
  refine Calls.mono (odrop_nil a 2 n _ d2) ?_
  rintro e w1 ⟨rfl, rfl⟩
  go_wp2_with fail
  refine Calls.mono (odrop_nil a 3 n _ d3) ?_
  rintro e w1 ⟨rfl, rfl⟩
  go_wp2_with fail
  go_ret
  exact ⟨rfl, rfl⟩
set_option maxHeartbeats 800000 in
theorem cnew0 (w : World) : Calls Try.prog 48 #[.int .i64 2] w fun e w' => ∃ C a mv, e = .returned (.pointer (some ⟨C, 0, none⟩)) ∧ w.heap.size ≤ C ∧ w.heap.size ≤ a ∧ w'.heap[C]? = some (.cells #[.pointer (some ⟨a, 0, none⟩), mv] 127) ∧ w'.heap[a]? = some arcO ∧ Below w.heap.size w w' := by
  have hb0 := (Below.refl w.heap.size w).alloc (Nat.le_refl _) arcO
  have hy := heap_alloc_self w arcO
  have hmm := @run_makeMap Try.prog
  go_enter Try.func48, Try.ntmps48
  go_wp2_with fail
  refine Calls.mono (anew _) ?_
  rintro e w1 ⟨rfl, rfl⟩
  generalize w.alloc arcO = w1 at *
  go_wp2_with fail
  go_ret
  have hb1 := hb0.alloc hb0.size (.map #[] 0)
  have y1 := alloc_farS (o := .map #[] 0) hy
  generalize hw2 : w1.alloc (.map #[] 0) = w2 at *
  have hs : w2.heap.size = w1.heap.size + 1 := by rw [← hw2]; simp
  rw [← hs]
  exact ⟨w2.heap.size, w.heap.size, _, rfl, hb1.size, Nat.le_refl _, heap_alloc_self _ _, alloc_farS y1, hb1.alloc hb1.size _⟩
theorem carc0 (C a : Nat) (w : World) (d0 : w.cell? ⟨C, 0, none⟩ = some (.pointer (some ⟨a, 0, none⟩))) : Calls Try.prog 79 #[.pointer (some ⟨C, 0, none⟩)] w fun e w' => e = .returned (.pointer (some ⟨a, 0, none⟩)) ∧ w = w' := by
  go_enter Try.func79, Try.ntmps79
  go_wp2_with fail
  go_ret
  exact ⟨rfl, rfl⟩
theorem cdrop0 (C a : Nat) (mv : Value) (n : Int) (w : World) (h : w.heap[C]? = some (.cells #[.pointer (some ⟨a, 0, none⟩), mv] 127)) (ha : w.heap[a]? = some arcO) : Calls Try.prog 52 #[.pointer (some ⟨C, 0, none⟩), .int .i64 n] w fun e w' => e = .returned (.tuple #[]) ∧ w = w' := by
  have d0 : w.cell? ⟨C, 0, none⟩ = some (.pointer (some ⟨a, 0, none⟩)) := by simp [World.cell?, h]
  clear h
  have cd := fun n => adrop a n w ha
  have ca := carc0 C a w d0
  go_enter Try.func52, Try.ntmps52
  go_wp2_with fail
  refine Calls.mono ca ?_
  rintro e w1 ⟨rfl, rfl⟩
  go_wp2_with fail
  refine Calls.mono (cd _) ?_
  rintro e w1 ⟨rfl, rfl⟩
  go_wp2_with fail
  go_end0
  exact ⟨rfl, rfl⟩
/-- the cells of a mirror: what was met of block 3; where its set and its cache are -/
structure MirC (A : Array Value) (k : Int) (p C : Nat) : Prop where
  met : A[3]? = some (.int .u64 k)
  set : A[64]? = some (.pointer (some ⟨p, 0, none⟩))
  cac : A[65]? = some (.pointer (some ⟨C, 0, none⟩))
theorem zero58 : Try.zeroCells100.size = 66 ∧ Try.zeroCells100[3]? = some (.int .u64 0) := ⟨rfl, rfl⟩
theorem mirC_new (p C : Nat) : MirC ((Try.zeroCells100.setIfInBounds 64 (.pointer (some ⟨p, 0, none⟩))).setIfInBounds 65 (.pointer (some ⟨C, 0, none⟩))) 0 p C := by
  obtain ⟨h1, h2⟩ := zero58
  generalize Try.zeroCells100 = Z at *
  exact ⟨by simpa [Array.getElem?_setIfInBounds, h1] using (Array.getElem?_eq_some_iff.1 h2).2, by simp [Array.getElem?_setIfInBounds, h1], by simp [Array.getElem?_setIfInBounds, h1]⟩
theorem MirC.put {A : Array Value} {k : Int} {p C : Nat} (h : MirC A k p C) (j : Int) : MirC (A.setIfInBounds 3 (.int .u64 j)) j p C := by
  obtain ⟨h1, h2, h3⟩ := h
  have hs : 65 < A.size := (Array.getElem?_eq_some_iff.1 h3).1
  exact ⟨by simp [Array.getElem?_setIfInBounds]; omega, by simp [Array.getElem?_setIfInBounds, h2], by simp [Array.getElem?_setIfInBounds, h3]⟩
/-- a mirror with an empty cache -/
structure Mir (w : World) (N p : Nat) (v : Value) (l : List HI) (m C a : Nat) (k : Int) (A : Array Value) (mv : Value) : Prop where
  set : SetAt w N p v l
  mir : IBlk w p v m (.cells A 100)
  cells : MirC A k p C
  cac : IBlk w p v C (.cells #[.pointer (some ⟨a, 0, none⟩), mv] 127)
  arc : IBlk w p v a arcO
  mc : m ≠ C
  ma : m ≠ a
theorem Mir.go {w w' : World} {N p : Nat} {v : Value} {l : List HI} {m C a : Nat} {k : Int} {A : Array Value} {mv : Value} (h : Mir w N p v l m C a k A mv) (hb : Below w.heap.size w w') : Mir w' N p v l m C a k A mv :=
  ⟨h.set.below hb, h.mir.go hb, h.cells, h.cac.go hb, h.arc.go hb, h.mc, h.ma⟩
theorem Mir.step {w w' : World} {N p : Nat} {v v' : Value} {l l' : List HI} {m C a : Nat} {k : Int} {A : Array Value} {mv : Value} (h : Mir w N p v l m C a k A mv) (hs : SetAt w' N p v' l') (hk : OKept w w' N p v v') : Mir w' N p v' l' m C a k A mv :=
  ⟨hs, h.mir.step hk, h.cells, h.cac.step hk, h.arc.step hk, h.mc, h.ma⟩
theorem Mir.drew {w : World} {N p : Nat} {v : Value} {l : List HI} {m C a : Nat} {k : Int} {A : Array Value} {mv : Value} (h : Mir w N p v l m C a k A mv) : Mir w.drew N p v l m C a k A mv :=
  ⟨h.set.drew, ⟨h.mir.at_, h.mir.ne, h.mir.nr⟩, h.cells, ⟨h.cac.at_, h.cac.ne, h.cac.nr⟩, ⟨h.arc.at_, h.arc.ne, h.arc.nr⟩, h.mc, h.ma⟩
theorem Mir.cell {w : World} {N p : Nat} {v : Value} {l : List HI} {m C a : Nat} {k : Int} {A : Array Value} {mv : Value} (h : Mir w N p v l m C a k A mv) : w.cell? ⟨m, 3, none⟩ = some (.int .u64 k) ∧ w.cell? ⟨m, 64, none⟩ = some (.pointer (some ⟨p, 0, none⟩)) ∧ w.cell? ⟨m, 65, none⟩ = some (.pointer (some ⟨C, 0, none⟩)) ∧ w.frozen? ⟨m, 3, none⟩ = false := by
  have hm := h.mir.at_
  exact ⟨by simp [World.cell?, hm, h.cells.met], by simp [World.cell?, hm, h.cells.set], by simp [World.cell?, hm, h.cells.cac], by simp [World.frozen?, hm]⟩
theorem heap_setCell_same {w : World} {m i : Nat} {A : Array Value} {t : TypeId} (h : w.heap[m]? = some (.cells A t)) (x : Value) : (w.setCell ⟨m, i, none⟩ x).heap[m]? = some (.cells (A.setIfInBounds i x) t) := by
  unfold World.setCell
  simp only [Array.getElem?_modify, if_pos trivial, h, Option.map_some]
  simp
theorem heap_setCell_far {w : World} {m i g : Nat} (h : m ≠ g) (x : Value) : (w.setCell ⟨m, i, none⟩ x).heap[g]? = w.heap[g]? := by
  unfold World.setCell
  simp only [Array.getElem?_modify, if_neg h]
theorem IBlk.far {w : World} {p : Nat} {v : Value} {X : Nat} {o : Obj} (h : IBlk w p v X o) {m i : Nat} (hm : m ≠ X) (x : Value) : IBlk (w.setCell ⟨m, i, none⟩ x) p v X o := ⟨(heap_setCell_far hm x).trans h.at_, h.ne, h.nr⟩
theorem Mir.put {w : World} {N p : Nat} {v : Value} {l : List HI} {m C a : Nat} {k : Int} {A : Array Value} {mv : Value} (h : Mir w N p v l m C a k A mv) (j : Int) : Mir (w.setCell ⟨m, 3, none⟩ (.int .u64 j)) N p v l m C a j (A.setIfInBounds 3 (.int .u64 j)) mv :=
  ⟨⟨h.set.1, (heap_setCell_far h.mir.ne _).trans h.set.2.1, ownsRow_setCell_other h.set.2.2.1 (fun e => h.mir.nr e.symm) _, h.set.2.2.2⟩, ⟨heap_setCell_same h.mir.at_ _, h.mir.ne, h.mir.nr⟩, h.cells.put j, h.cac.far h.mc _, h.arc.far h.ma _, h.mc, h.ma⟩
set_option maxHeartbeats 800000 in
theorem mnew0 (w : World) : Calls Try.prog 18 #[.int .i64 2] w fun e w' => ∃ m C a A mv, e = .returned (.pointer (some ⟨m, 0, none⟩)) ∧ Mir w' w.heap.size w.heap.size (.slice none 0 0) [] m C a 0 A mv ∧ w.heap.size ≤ m ∧ Below w.heap.size w w' := by
  have c0 := fun w => snew w
  have c1 := fun w => cnew0 w
  have hS := set_new w
  have hb0 := (Below.refl w.heap.size w).alloc (Nat.le_refl _) (.cells #[.slice none 0 0] 122)
  have hz : (w.alloc (.cells #[.slice none 0 0] 122)).heap.size = w.heap.size + 1 := by simp
  go_enter Try.func18, Try.ntmps18
  go_wp2_with fail
  refine Calls.mono (c0 _) ?_
  rintro e w1 ⟨rfl, rfl⟩
  generalize w.alloc (.cells #[.slice none 0 0] 122) = w1 at *
  go_wp2_with fail
  refine Calls.mono (c1 _) ?_
  rintro e w2 ⟨C, a, mv, rfl, g1, g2, g3, g4, g5⟩
  go_wp2_with fail
  go_ret
  have l1 := lt_heap g3
  have l2 := lt_heap g4
  have hnr : ∀ X : Nat, some X ≠ Value.ownBlock (.slice none 0 0) := fun X e => by cases e
  refine ⟨w2.heap.size, C, a, _, mv, rfl, ⟨(hS.below g5).below ((Below.refl _ _).alloc (Nat.le_refl _) _), ⟨heap_alloc_self _ _, by omega, hnr _⟩, mirC_new _ _, ⟨alloc_farS g3, by omega, hnr _⟩, ⟨alloc_farS g4, by omega, hnr _⟩, by omega, by omega⟩, by omega, ?_⟩
  have hb1 := hb0.trans (g5.mono (by omega))
  exact hb1.alloc hb1.size _
theorem mhas3 (w : World) : Calls Try.prog 49 #[.int .i64 3] w fun e w' => e = .returned (.bool true) ∧ w = w' := by
  go_enter Try.func49, Try.ntmps49
  go_wp2_with fail
  go_ret
  exact ⟨rfl, rfl⟩
end Go.Proofs.Ytfgmeeponipjeaa
