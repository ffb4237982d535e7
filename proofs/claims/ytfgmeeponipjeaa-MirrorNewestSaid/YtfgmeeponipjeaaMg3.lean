/-
  Several texts, laid together.
-/
import Derived.Test.YtfgmeeponipjeaaMg2
import Derived.BigQuiet
import Derived.Deep.QuietTactic
/-
  An arc in memory: its four lists; Has, Len, Use.
-/

namespace Go.Proofs.Ytfgmeeponipjeaa
open Go.RowKit
set_option linter.unusedVariables false
set_option linter.unusedSimpArgs false

def upd {α : Type} (V : Nat → α) (k : Nat) (v : α) : Nat → α := fun i => if i = k then v else V i
theorem upd_at {α : Type} (V : Nat → α) (k : Nat) (v : α) : upd V k v k = v := if_pos rfl
theorem upd_ne {α : Type} (V : Nat → α) {k i : Nat} (v : α) (h : i ≠ k) : upd V k v i = V i := if_neg h
def arcC (R W : Int) (V : Nat → Value) : Array Value := #[.int .i64 R, .int .i64 W, V 0, V 1, V 2, V 3]
theorem arcC_at (R W : Int) (V : Nat → Value) (k : Nat) (hk : k < 4) : (arcC R W V)[2 + k]? = some (V k) := by
  match k, hk with
  | 0, _ => rfl
  | 1, _ => rfl
  | 2, _ => rfl
  | 3, _ => rfl
theorem arcC_put (R W : Int) (V : Nat → Value) (k : Nat) (hk : k < 4) (v : Value) : (arcC R W V).setIfInBounds (2 + k) v = arcC R W (upd V k v) := by
  match k, hk with
  | 0, _ => rfl
  | 1, _ => rfl
  | 2, _ => rfl
  | 3, _ => rfl
structure ArcAt (w : World) (N a : Nat) (R W : Int) (V : Nat → Value) (L : Nat → List Int) : Prop where
  low : N ≤ a
  obj : w.heap[a]? = some (.cells (arcC R W V) 142)
  row : ∀ i, i < 4 → RowAt w N (V i) (L i)
  dis : ∀ i j, i < 4 → j < 4 → i ≠ j → ∀ b, (V i).ownBlock = some b → (V j).ownBlock ≠ some b
/-- what a change of an arc leaves -/
structure ArcKept (w w' : World) (N a : Nat) (V V' : Nat → Value) : Prop where
  below : Below N w w'
  size : w.heap.size ≤ w'.heap.size
  block : ∀ j, j < w.heap.size → j ≠ a → (∀ i, i < 4 → some j ≠ (V i).ownBlock) → w'.heap[j]? = w.heap[j]?
  new : ∀ i, i < 4 → ∀ k, (V' i).ownBlock = some k → (∃ j, j < 4 ∧ (V j).ownBlock = some k) ∨ w.heap.size ≤ k
theorem ArcKept.refl (w : World) (N a : Nat) (V : Nat → Value) : ArcKept w w N a V V := ⟨Below.refl _ _, Nat.le_refl _, fun _ _ _ _ => rfl, fun i hi k e => .inl ⟨i, hi, e⟩⟩
theorem ArcKept.trans {x y z : World} {N a : Nat} {V U T : Nat → Value} (h : ArcKept x y N a V U) (g : ArcKept y z N a U T) : ArcKept x z N a V T := by
  refine ⟨h.below.trans g.below, Nat.le_trans h.size g.size, fun j hj hja hu => ?_, fun i hi k e => ?_⟩
  · refine (g.block j (Nat.lt_of_lt_of_le hj h.size) hja fun i hi e => ?_).trans (h.block j hj hja hu)
    rcases h.new i hi j e.symm with ⟨m, hm, q⟩ | q
    · exact hu m hm q.symm
    · omega
  · rcases g.new i hi k e with ⟨m, hm, q⟩ | q
    · exact h.new m hm k q
    · exact .inr (Nat.le_trans h.size q)
theorem ArcKept.of_below {w w' : World} {N a : Nat} {V : Nat → Value} (h : Below w.heap.size w w') (hN : N ≤ w.heap.size) : ArcKept w w' N a V V := ⟨h.mono hN, h.size, fun k hk _ _ => h.block k hk, fun i hi k e => .inl ⟨i, hi, e⟩⟩
theorem ArcAt.le {w : World} {N a : Nat} {R W : Int} {V : Nat → Value} {L : Nat → List Int} (h : ArcAt w N a R W V L) : N ≤ w.heap.size := Nat.le_trans h.low (Nat.le_of_lt (obj_lt h.obj))
theorem ArcAt.below {w w' : World} {N a : Nat} {R W : Int} {V : Nat → Value} {L : Nat → List Int} (h : ArcAt w N a R W V L) (hb : Below w.heap.size w w') : ArcAt w' N a R W V L :=
  ⟨h.low, (hb.block a (obj_lt h.obj)).trans h.obj, fun i hi => (h.row i hi).kept fun g hg => hb.block g ((h.row i hi).lt g hg), h.dis⟩
theorem ArcAt.ord {w : World} {N a : Nat} {R W : Int} {V : Nat → Value} {L : Nat → List Int} (h : ArcAt w N a R W V L) (k : Nat) (hk : k < 4) : OrdA w N a (2 + k) 142 (arcC R W V) (V k) (L k) :=
  ⟨h.low, h.obj, arcC_at R W V k hk, h.row k hk, by decide⟩
theorem ArcAt.step {w w' : World} {N a : Nat} {R W : Int} {V : Nat → Value} {L : Nat → List Int} (h : ArcAt w N a R W V L) (k : Nat) (hk : k < 4) {v' : Value} {l' : List Int} (ho : OrdA w' N a (2 + k) 142 ((arcC R W V).setIfInBounds (2 + k) v') v' l') (kk : AKept w w' N a (2 + k) 142 (arcC R W V) (V k) v') :
    ArcAt w' N a R W (upd V k v') (upd L k l') ∧ ArcKept w w' N a V (upd V k v') := by
  have hd : ∀ i, i < 4 → i ≠ k → ∀ b, (V i).ownBlock = some b → v'.ownBlock ≠ some b := by
    intro i hi hik b e q
    rcases kk.new with hn | hn
    · exact h.dis i k hi hk hik b e (hn ▸ q)
    · have := hn b q
      have := (h.row i hi).lt b e
      omega
  refine ⟨⟨h.low, by rw [← arcC_put R W V k hk]; exact ho.obj, fun i hi => ?_, fun i j hi hj hij b e => ?_⟩, ⟨kk.below, kk.size, fun j hj hja hu => kk.block j hj hja (hu k hk), fun i hi b e => ?_⟩⟩
  · by_cases hik : i = k
    · subst hik
      rw [upd_at, upd_at]
      exact ho.row
    · rw [upd_ne _ _ hik, upd_ne _ _ hik]
      refine (h.row i hi).kept fun g hg => kk.block g ((h.row i hi).lt g hg) (fun e => (h.row i hi).other h.obj (by decide) (e ▸ hg)) (fun e => h.dis i k hi hk hik g hg e.symm)
  · by_cases hik : i = k
    · subst hik
      rw [upd_at] at e
      rw [upd_ne _ _ (Ne.symm hij)]
      exact fun q => hd j hj (Ne.symm hij) b q e
    · rw [upd_ne _ _ hik] at e
      by_cases hjk : j = k
      · subst hjk
        rw [upd_at]
        exact hd i hi hik b e
      · rw [upd_ne _ _ hjk]
        exact h.dis i j hi hj hij b e
  · by_cases hik : i = k
    · subst hik
      rw [upd_at] at e
      rcases kk.new with hn | hn
      · exact .inl ⟨i, hk, hn ▸ e⟩
      · exact .inr (hn b e)
    · rw [upd_ne _ _ hik] at e
      exact .inl ⟨i, hi, e⟩
theorem ArcAt.rooms {w : World} {N a : Nat} {R W : Int} {V : Nat → Value} {L : Nat → List Int} (h : ArcAt w N a R W V L) : w.cell? ⟨a, 0, none⟩ = some (.int .i64 R) ∧ w.cell? ⟨a, 1, none⟩ = some (.int .i64 W) := by
  have ho := h.obj
  exact ⟨by simp [World.cell?, ho, arcC], by simp [World.cell?, ho, arcC]⟩
theorem amany0 (w : World) (N a : Nat) (R W : Int) (V : Nat → Value) (L : Nat → List Int) (h : ArcAt w N a R W V L) : Calls Try.prog 99 #[.pointer (some ⟨a, 0, none⟩), .int .i64 0] w fun e w' => e = .returned (.int .i64 (L 0).length) ∧ w = w' := by
  have c := olenA (L 0) w N a _ _ _ _ (h.ord 0 (by decide))
  go_enter Try.func99, Try.ntmps99
  go_wp2_with fail
  refine Calls.mono c ?_
  rintro e w1 ⟨rfl, rfl⟩
  go_wp2_with fail
  go_ret
  exact ⟨rfl, rfl⟩
theorem amany1 (w : World) (N a : Nat) (R W : Int) (V : Nat → Value) (L : Nat → List Int) (h : ArcAt w N a R W V L) : Calls Try.prog 99 #[.pointer (some ⟨a, 0, none⟩), .int .i64 1] w fun e w' => e = .returned (.int .i64 (L 1).length) ∧ w = w' := by
  have c := olenA (L 1) w N a _ _ _ _ (h.ord 1 (by decide))
  go_enter Try.func99, Try.ntmps99
  go_wp2_with fail
  refine Calls.mono c ?_
  rintro e w1 ⟨rfl, rfl⟩
  go_wp2_with fail
  go_ret
  exact ⟨rfl, rfl⟩
theorem amany2 (w : World) (N a : Nat) (R W : Int) (V : Nat → Value) (L : Nat → List Int) (h : ArcAt w N a R W V L) : Calls Try.prog 99 #[.pointer (some ⟨a, 0, none⟩), .int .i64 2] w fun e w' => e = .returned (.int .i64 (L 2).length) ∧ w = w' := by
  have c := olenA (L 2) w N a _ _ _ _ (h.ord 2 (by decide))
  go_enter Try.func99, Try.ntmps99
  go_wp2_with fail
  refine Calls.mono c ?_
  rintro e w1 ⟨rfl, rfl⟩
  go_wp2_with fail
  go_ret
  exact ⟨rfl, rfl⟩
theorem amany3 (w : World) (N a : Nat) (R W : Int) (V : Nat → Value) (L : Nat → List Int) (h : ArcAt w N a R W V L) : Calls Try.prog 99 #[.pointer (some ⟨a, 0, none⟩), .int .i64 3] w fun e w' => e = .returned (.int .i64 (L 3).length) ∧ w = w' := by
  have c := olenA (L 3) w N a _ _ _ _ (h.ord 3 (by decide))
  go_enter Try.func99, Try.ntmps99
  go_wp2_with fail
  refine Calls.mono c ?_
  rintro e w1 ⟨rfl, rfl⟩
  go_wp2_with fail
  go_ret
  exact ⟨rfl, rfl⟩
theorem ahas (n : Int) (w : World) (N a : Nat) (R W : Int) (V : Nat → Value) (L : Nat → List Int) (h : ArcAt w N a R W V L) : Calls Try.prog 84 #[.pointer (some ⟨a, 0, none⟩), .int .i64 n] w fun e w' => e = .returned (.bool ((L 0).contains n || (L 1).contains n)) ∧ w = w' := by
  have c0 := ohasA (L 0) n w N a _ _ _ _ (h.ord 0 (by decide))
  have c1 := ohasA (L 1) n w N a _ _ _ _ (h.ord 1 (by decide))
  cases hb : (L 0).contains n
  · rw [hb] at c0
    go_enter Try.func84, Try.ntmps84
    go_wp2_with fail
    refine Calls.mono c0 ?_
    rintro e w1 ⟨rfl, rfl⟩
    go_wp2_with fail
    refine Calls.mono c1 ?_
    rintro e w1 ⟨rfl, rfl⟩
    go_wp2_with fail
    go_ret
    exact ⟨by simp, rfl⟩
  · rw [hb] at c0
    go_enter Try.func84, Try.ntmps84
    go_wp2_with fail
    refine Calls.mono c0 ?_
    rintro e w1 ⟨rfl, rfl⟩
    go_wp2_with fail
    go_ret
    exact ⟨rfl, rfl⟩
theorem ause_room (n : Int) (w : World) (N a : Nat) (W : Int) (V : Nat → Value) (L : Nat → List Int) (h : ArcAt w N a 0 W V L) : Calls Try.prog 83 #[.pointer (some ⟨a, 0, none⟩), .int .i64 n] w fun e w' => e = .returned (.tuple #[.int .i64 0, .bool false]) ∧ w = w' := by
  obtain ⟨d0, d1⟩ := h.rooms
  go_enter Try.func83, Try.ntmps83
  go_wp2_with fail
  go_returns
  exact ⟨rfl, rfl⟩
set_option maxHeartbeats 1600000 in
theorem ause_has (n : Int) (w : World) (N a : Nat) (R W : Int) (V : Nat → Value) (L : Nat → List Int) (h : ArcAt w N a R W V L) (hR : 0 < R) (hn : ((L 0).contains n || (L 1).contains n) = true) (h0 : (L 0).length ≤ 1000) (h1 : (L 1).length ≤ 1000) : Calls Try.prog 83 #[.pointer (some ⟨a, 0, none⟩), .int .i64 n] w fun e w' => e = .returned (.tuple #[.int .i64 0, .bool false]) ∧ ∃ V', ArcAt w' N a R W V' (upd (upd L 0 ((L 0).erase n)) 1 (n :: (L 1).erase n)) ∧ ArcKept w w' N a V V' := by
  obtain ⟨d0, d1⟩ := h.rooms
  have ca := ahas n w N a R W V L h
  have cd := odropA (L 0) n w N a _ _ _ _ (h.ord 0 (by decide)) (by omega)
  rw [hn] at ca
  have hR2 : ¬ R = 0 := by omega
  go_enter Try.func83, Try.ntmps83
  go_wp2_with fail
  refine Calls.mono ca ?_
  rintro e w1 ⟨rfl, rfl⟩
  go_wp2_with fail
  refine Calls.mono cd ?_
  rintro e w1 ⟨rfl, v0, ho0, hk0⟩
  obtain ⟨hA1, hK1⟩ := h.step 0 (by decide) ho0 hk0
  have cu := ouseA (L 1) n w1 N a _ _ _ _ (hA1.ord 1 (by decide)) (by omega)
  have HK1 := Lib.hid hK1
  have HA1 := Lib.hid hA1
  clear hA1 hK1 ho0 hk0 cd ca d0 d1 h
  go_wp2_with fail
  refine Calls.mono cu ?_
  rintro e w2 ⟨rfl, v1, ho1, hk1⟩
  obtain ⟨hA2, hK2⟩ := HA1.out.step 1 (by decide) ho1 hk1
  clear ho1 hk1 cu
  go_wp2_with fail
  go_returns
  exact ⟨rfl, _, hA2, HK1.out.trans hK2⟩
end Go.Proofs.Ytfgmeeponipjeaa
/-
  A new arc; a number that is used for the first time, where there is room.
-/



namespace Go.Proofs.Ytfgmeeponipjeaa
open Go.RowKit
set_option linter.unusedVariables false
set_option linter.unusedSimpArgs false

theorem arc_new (w : World) (R : Int) : ArcAt (w.alloc (.cells (arcC R 0 (fun _ => .slice none 0 0)) 142)) w.heap.size w.heap.size R 0 (fun _ => .slice none 0 0) (fun _ => []) :=
  ⟨Nat.le_refl _, heap_alloc_self _ _, fun _ _ => RowAt.nil _ _, fun _ _ _ _ _ _ e => by cases e⟩
theorem anewA0 (w : World) : Calls Try.prog 74 #[.int .i64 0] w fun e w' => e = .returned (.pointer (some ⟨w.heap.size, 0, none⟩)) ∧ w' = w.alloc (.cells (arcC 0 0 (fun _ => .slice none 0 0)) 142) := by
  go_enter Try.func74, Try.ntmps74
  go_wp2_with fail
  go_ret
  exact ⟨rfl, rfl⟩
theorem anewA2 (w : World) : Calls Try.prog 74 #[.int .i64 2] w fun e w' => e = .returned (.pointer (some ⟨w.heap.size, 0, none⟩)) ∧ w' = w.alloc (.cells (arcC 2 0 (fun _ => .slice none 0 0)) 142) := by
  go_enter Try.func74, Try.ntmps74
  go_wp2_with fail
  go_ret
  exact ⟨rfl, rfl⟩
theorem ArcAt.drewN {w : World} {N a : Nat} {R W : Int} {V : Nat → Value} {L : Nat → List Int} (h : ArcAt w N a R W V L) (q : Nat) : ArcAt (w.drewN q) N a R W V L := ⟨h.low, h.obj, fun i hi => (h.row i hi).kept fun _ _ => rfl, h.dis⟩
set_option maxHeartbeats 1600000 in
theorem acomes_room (w : World) (N a : Nat) (R W : Int) (V : Nat → Value) (L : Nat → List Int) (h : ArcAt w N a R W V L) (hR : R ≤ 64) (hs : ((L 0).length : Int) + (L 1).length + (L 2).length + (L 3).length < R) :
    Calls Try.prog 101 #[.pointer (some ⟨a, 0, none⟩)] w fun e w' => e = .returned (.tuple #[.int .i64 0, .bool false]) ∧ ∃ q, w' = w.drewN q := by
  have c0 := amany0 w N a R W V L h
  have c1 := amany1 w N a R W V L h
  have c2 := amany2 w N a R W V L h
  have c3 := amany3 w N a R W V L h
  obtain ⟨d0, d1⟩ := h.rooms
  clear h
  generalize (L 0).length = n0 at *
  generalize (L 1).length = n1 at *
  generalize (L 2).length = n2 at *
  generalize (L 3).length = n3 at *
  have e1 : ¬ R ≤ (n0 : Int) + n2 := by omega
  have e1' : decide (R ≤ (n0 : Int) + n2) = false := decide_eq_false e1
  have e2 : ¬ 2 * R ≤ (n0 : Int) + n2 + n1 + n3 := by omega
  have e3 : ¬ R ≤ (n0 : Int) + n2 + n1 + n3 := by omega
  go_enter Try.func101, Try.ntmps101
  go_wp2_with fail
  refine Calls.mono c0 ?_
  rintro e w1 ⟨rfl, rfl⟩
  go_wp2_with fail
  refine Calls.mono c2 ?_
  rintro e w1 ⟨rfl, rfl⟩
  go_wp2_with fail
  refine Calls.mono c1 ?_
  rintro e w1 ⟨rfl, rfl⟩
  go_wp2_with fail
  refine Calls.mono c3 ?_
  rintro e w1 ⟨rfl, rfl⟩
  go_upto_region 3 with fail
  go_quiet (fail)
  have d0' : (w.drewN nq).cell? ⟨a, 0, none⟩ = some (.int .i64 R) := d0
  go_wp2_with fail
  go_returns
  exact ⟨rfl, _, rfl⟩
set_option maxHeartbeats 1600000 in
theorem ause_new (n : Int) (w : World) (N a : Nat) (R W : Int) (V : Nat → Value) (L : Nat → List Int) (h : ArcAt w N a R W V L) (hR0 : 0 < R) (hR : R ≤ 64) (hs : ((L 0).length : Int) + (L 1).length + (L 2).length + (L 3).length < R) (hn : ∀ i, i < 4 → (L i).contains n = false) :
    Calls Try.prog 83 #[.pointer (some ⟨a, 0, none⟩), .int .i64 n] w fun e w' => e = .returned (.tuple #[.int .i64 0, .bool false]) ∧ ∃ V', ArcAt w' N a R W V' (upd L 0 (n :: L 0)) ∧ ArcKept w w' N a V V' := by
  obtain ⟨d0, d1⟩ := h.rooms
  have ca := ahas n w N a R W V L h
  rw [hn 0 (by decide), hn 1 (by decide)] at ca
  have c2 := ohasA (L 2) n w N a _ _ _ _ (h.ord 2 (by decide))
  have c3 := ohasA (L 3) n w N a _ _ _ _ (h.ord 3 (by decide))
  rw [hn 2 (by decide)] at c2
  rw [hn 3 (by decide)] at c3
  have cc := acomes_room w N a R W V L h hR hs
  have hR2 : ¬ R = 0 := by omega
  have HH := Lib.hid h
  have HN := Lib.hid (hn 0 (by decide))
  have HS := Lib.hid hs
  clear h hn hs
  go_enter Try.func83, Try.ntmps83
  go_wp2_with fail
  refine Calls.mono ca ?_
  rintro e w1 ⟨rfl, rfl⟩
  go_wp2_with fail
  refine Calls.mono c2 ?_
  rintro e w1 ⟨rfl, rfl⟩
  go_wp2_with fail
  refine Calls.mono c3 ?_
  rintro e w1 ⟨rfl, rfl⟩
  go_wp2_with fail
  refine Calls.mono cc ?_
  rintro e w1 ⟨rfl, q, rfl⟩
  have hq := HH.out.drewN q
  have cu := ouseA (L 0) n (w.drewN q) N a _ _ _ _ (hq.ord 0 (by decide)) (by have := HS.out; omega)
  have HQ := Lib.hid hq
  clear hq cc c3 c2 ca d0 d1
  go_wp2_with fail
  refine Calls.mono cu ?_
  rintro e w2 ⟨rfl, v0, ho, hk⟩
  obtain ⟨hA, hK⟩ := HQ.out.step 0 (by decide) ho hk
  clear ho hk cu
  go_wp2_with fail
  go_returns
  refine ⟨rfl, _, by rw [← List.erase_of_not_mem (l := L 0) (a := n) (by have := HN.out; simpa using this)]; rw [List.erase_of_not_mem (l := L 0) (a := n) (by have := HN.out; simpa using this)] at hA ⊢; exact hA, (ArcKept.of_below (below_drewN' (Below.refl _ _) q) HH.out.le).trans hK⟩
end Go.Proofs.Ytfgmeeponipjeaa
/-
  An arc: the last of a list goes (Pop, move, makeRoom).
-/

namespace Go.Proofs.Ytfgmeeponipjeaa
open Go.RowKit
set_option linter.unusedVariables false
set_option linter.unusedSimpArgs false

def outV (o : Option Int) : Value := .tuple #[.int .i64 (o.getD 0), .bool o.isSome]
/-- the last of a list is the first of another one -/
def sMove (f t : Nat) (L : Nat → List Int) : (Nat → List Int) × Option Int :=
  match (L f).getLast? with
  | none => (L, none)
  | some x => (upd (upd L f (L f).dropLast) t (x :: (L t).erase x), some x)
def sRoom (W : Int) (was : Bool) (L : Nat → List Int) : (Nat → List Int) × Option Int :=
  if 0 < (L 0).length ∧ (W < (L 0).length ∨ ((L 0).length : Int) = W ∧ was = true) then sMove 0 2 L else sMove 1 3 L
theorem snoc_or (l : List Int) : l = [] ∨ ∃ m x, l = m ++ [x] := by
  rcases List.eq_nil_or_concat l with h | ⟨m, x, h⟩
  · exact .inl h
  · exact .inr ⟨m, x, by rw [h]; simp⟩
theorem sMove_nil (f t : Nat) (L : Nat → List Int) (h : L f = []) : sMove f t L = (L, none) := by simp [sMove, h]
theorem sMove_some (f t : Nat) (L : Nat → List Int) {l : List Int} {x : Int} (h : L f = l ++ [x]) : sMove f t L = (upd (upd L f l) t (x :: (L t).erase x), some x) := by simp [sMove, h]
theorem opopA0 (w : World) (N a k : Nat) (t : TypeId) (A : Array Value) (v : Value) (h : OrdA w N a k t A v []) : Calls Try.prog 118 #[.pointer (some ⟨a, k, none⟩)] w fun e w' => e = .returned (.tuple #[.int .i64 0, .bool false]) ∧ w = w' := by
  have c := olenA [] w N a k t A v h
  rw [show ((([] : List Int).length : Nat) : Int) = 0 from rfl] at c
  clear h
  go_enter Try.func118, Try.ntmps118
  go_wp2_with fail
  refine Calls.mono c ?_
  rintro e w1 ⟨rfl, rfl⟩
  go_wp2_with fail
  go_returns
  exact ⟨rfl, rfl⟩
set_option maxHeartbeats 1600000 in
theorem opopA (l : List Int) (x : Int) (w : World) (N a k : Nat) (t : TypeId) (A : Array Value) (v : Value) (h : OrdA w N a k t A v (l ++ [x])) (hl : l.length ≤ 1000000) : Calls Try.prog 118 #[.pointer (some ⟨a, k, none⟩)] w fun e w' => e = .returned (.tuple #[.int .i64 x, .bool true]) ∧ ∃ v', OrdA w' N a k t (A.setIfInBounds k v') v' l ∧ AKept w w' N a k t A v v' := by
  have hO := h
  have hc := h.at_
  have hf := obj_frozenA h.obj k
  have hr0 := h.row
  rcases h.row with ⟨rfl, he⟩ | ⟨g, cap, f, rfl, hg, hrow, hlc, hcm, hff⟩
  · simp at he
  · have hlen : (l ++ [x]).length = l.length + 1 := by simp
    have hx := hrow.cell (i := l.length) (by omega)
    rw [hff l.length (by omega)] at hx
    simp only [List.getD_eq_getElem?_getD, List.getElem?_append_right (Nat.le_refl _), Nat.sub_self, List.getElem?_cons_zero, Option.getD_some] at hx
    have hr1 : RowAt w N (.slice (some ⟨g, 0, none⟩) l.length cap) l := .inr ⟨g, cap, f, rfl, hg, hrow, by omega, hcm, fun j hj => by
      rw [hff j (by omega), List.getD_eq_getElem?_getD, List.getElem?_append_left hj, ← List.getD_eq_getElem?_getD]⟩
    have hput := put_ordA hO (World.grownBy.refl w _) hr1 (.inl rfl)
    have hol := olenA (l ++ [x]) w N a k t A _ hO
    rw [hlen] at hol hc hlc
    clear hff hrow hr0 hO h
    have hcap : (cap : Int) ≤ 9223372036854775807 := by unfold maxLen at hcm; omega
    go_enter Try.func118, Try.ntmps118
    go_wp2_with fail
    refine Calls.mono hol ?_
    rintro e w1 ⟨rfl, rfl⟩
    go_wp2_with fail
    all_goals go_returns
    all_goals exact ⟨rfl, _, hput.2.1, hput.2.2⟩
set_option maxHeartbeats 1600000 in
theorem amove02 (w : World) (N a : Nat) (R W : Int) (V : Nat → Value) (L : Nat → List Int) (h : ArcAt w N a R W V L) (hl : ∀ i, i < 4 → (L i).length ≤ 100000) :
    Calls Try.prog 128 #[.pointer (some ⟨a, 0, none⟩), .int .i64 0, .int .i64 2] w fun e w' => e = .returned (outV (sMove 0 2 L).2) ∧ ∃ V', ArcAt w' N a R W V' (sMove 0 2 L).1 ∧ ArcKept w w' N a V V' := by
  rcases snoc_or (L 0) with hL | ⟨l, x, hL⟩
  · have c := opopA0 w N a _ _ _ _ (hL ▸ h.ord 0 (by decide))
    rw [sMove_nil _ _ _ hL]
    have HH := Lib.hid h
    clear h hl hL
    unfold outV
    go_enter Try.func128, Try.ntmps128
    go_wp2_with fail
    refine Calls.mono c ?_
    rintro e w1 ⟨rfl, rfl⟩
    go_wp2_with fail
    go_returns
    exact ⟨rfl, V, HH.out, ArcKept.refl _ _ _ _⟩
  · have hl2 := hl 2 (by decide)
    have hl1 : l.length ≤ 100000 := by have := hl 0 (by decide); rw [hL] at this; simp at this; omega
    have c := opopA l x w N a _ _ _ _ (hL ▸ h.ord 0 (by decide)) (by omega)
    rw [sMove_some _ _ _ hL]
    have HH := Lib.hid h
    clear h hl hL
    unfold outV
    go_enter Try.func128, Try.ntmps128
    go_wp2_with fail
    refine Calls.mono c ?_
    rintro e w1 ⟨rfl, v1, ho1, hk1⟩
    obtain ⟨hA1, hK1⟩ := HH.out.step 0 (by decide) ho1 hk1
    have cu := ouseA (L 2) x w1 N a _ _ _ _ (hA1.ord 2 (by decide)) (by omega)
    have HA1 := Lib.hid (And.intro hA1 hK1)
    clear hA1 hK1 ho1 hk1 c
    go_wp2_with fail
    refine Calls.mono cu ?_
    rintro e w2 ⟨rfl, v2, ho2, hk2⟩
    obtain ⟨hA2, hK2⟩ := HA1.out.1.step 2 (by decide) ho2 hk2
    clear ho2 hk2 cu
    go_wp2_with fail
    go_returns
    exact ⟨rfl, _, hA2, HA1.out.2.trans hK2⟩
set_option maxHeartbeats 1600000 in
theorem amove13 (w : World) (N a : Nat) (R W : Int) (V : Nat → Value) (L : Nat → List Int) (h : ArcAt w N a R W V L) (hl : ∀ i, i < 4 → (L i).length ≤ 100000) :
    Calls Try.prog 128 #[.pointer (some ⟨a, 0, none⟩), .int .i64 1, .int .i64 3] w fun e w' => e = .returned (outV (sMove 1 3 L).2) ∧ ∃ V', ArcAt w' N a R W V' (sMove 1 3 L).1 ∧ ArcKept w w' N a V V' := by
  rcases snoc_or (L 1) with hL | ⟨l, x, hL⟩
  · have c := opopA0 w N a _ _ _ _ (hL ▸ h.ord 1 (by decide))
    rw [sMove_nil _ _ _ hL]
    have HH := Lib.hid h
    clear h hl hL
    unfold outV
    go_enter Try.func128, Try.ntmps128
    go_wp2_with fail
    refine Calls.mono c ?_
    rintro e w1 ⟨rfl, rfl⟩
    go_wp2_with fail
    go_returns
    exact ⟨rfl, V, HH.out, ArcKept.refl _ _ _ _⟩
  · have hl2 := hl 3 (by decide)
    have hl1 : l.length ≤ 100000 := by have := hl 1 (by decide); rw [hL] at this; simp at this; omega
    have c := opopA l x w N a _ _ _ _ (hL ▸ h.ord 1 (by decide)) (by omega)
    rw [sMove_some _ _ _ hL]
    have HH := Lib.hid h
    clear h hl hL
    unfold outV
    go_enter Try.func128, Try.ntmps128
    go_wp2_with fail
    refine Calls.mono c ?_
    rintro e w1 ⟨rfl, v1, ho1, hk1⟩
    obtain ⟨hA1, hK1⟩ := HH.out.step 1 (by decide) ho1 hk1
    have cu := ouseA (L 3) x w1 N a _ _ _ _ (hA1.ord 3 (by decide)) (by omega)
    have HA1 := Lib.hid (And.intro hA1 hK1)
    clear hA1 hK1 ho1 hk1 c
    go_wp2_with fail
    refine Calls.mono cu ?_
    rintro e w2 ⟨rfl, v2, ho2, hk2⟩
    obtain ⟨hA2, hK2⟩ := HA1.out.1.step 3 (by decide) ho2 hk2
    clear ho2 hk2 cu
    go_wp2_with fail
    go_returns
    exact ⟨rfl, _, hA2, HA1.out.2.trans hK2⟩
set_option maxHeartbeats 1600000 in
theorem aroom (was : Bool) (w : World) (N a : Nat) (R W : Int) (V : Nat → Value) (L : Nat → List Int) (h : ArcAt w N a R W V L) (hl : ∀ i, i < 4 → (L i).length ≤ 100000) :
    Calls Try.prog 117 #[.pointer (some ⟨a, 0, none⟩), .bool was] w fun e w' => e = .returned (outV (sRoom W was L).2) ∧ ∃ V', ArcAt w' N a R W V' (sRoom W was L).1 ∧ ArcKept w w' N a V V' := by
  have cm := amany0 w N a R W V L h
  have c0 := amove02 w N a R W V L h hl
  have c1 := amove13 w N a R W V L h hl
  obtain ⟨d0, d1⟩ := h.rooms
  unfold sRoom
  have hm : (L 0).length ≤ 100000 := hl 0 (by decide)
  generalize (L 0).length = m at *
  unfold outV at *
  by_cases hc : 0 < m ∧ (W < m ∨ (m : Int) = W ∧ was = true)
  · rw [if_pos hc]
    obtain ⟨g1, g2⟩ := hc
    have g1' : (0 : Int) < m := by omega
    clear h hl c1
    by_cases g3 : W < m
    · have g3' : decide (W < (m : Int)) = true := decide_eq_true g3
      clear g2
      go_enter Try.func117, Try.ntmps117
      go_wp2_with fail
      refine Calls.mono cm ?_
      rintro e w1 ⟨rfl, rfl⟩
      go_wp2_with fail
      refine Calls.mono c0 ?_
      rintro e w2 ⟨rfl, h2⟩
      go_wp2_with fail
      go_returns
      exact ⟨rfl, h2⟩
    · obtain ⟨g4, g5⟩ := g2.resolve_left g3
      subst g4
      subst g5
      clear g3 g2
      go_enter Try.func117, Try.ntmps117
      go_wp2_with fail
      refine Calls.mono cm ?_
      rintro e w1 ⟨rfl, rfl⟩
      go_wp2_with fail
      refine Calls.mono c0 ?_
      rintro e w2 ⟨rfl, h2⟩
      go_wp2_with fail
      go_returns
      exact ⟨rfl, h2⟩
  · rw [if_neg hc]
    clear h hl c0
    by_cases g1 : 0 < m
    · have g1' : (0 : Int) < m := by omega
      have g2 : ¬ W < m := fun q => hc ⟨g1, .inl q⟩
      by_cases g3 : (m : Int) = W
      · have g4 : was = false := by
          cases was
          · rfl
          · exact absurd ⟨g1, .inr ⟨g3, rfl⟩⟩ hc
        subst g3
        subst g4
        clear hc
        go_enter Try.func117, Try.ntmps117
        go_wp2_with fail
        refine Calls.mono cm ?_
        rintro e w1 ⟨rfl, rfl⟩
        go_wp2_with fail
        refine Calls.mono c1 ?_
        rintro e w2 ⟨rfl, h2⟩
        go_wp2_with fail
        go_returns
        exact ⟨rfl, h2⟩
      · clear hc
        go_enter Try.func117, Try.ntmps117
        go_wp2_with fail
        refine Calls.mono cm ?_
        rintro e w1 ⟨rfl, rfl⟩
        go_wp2_with fail
        refine Calls.mono c1 ?_
        rintro e w2 ⟨rfl, h2⟩
        go_wp2_with fail
        go_returns
        exact ⟨rfl, h2⟩
    · obtain rfl : m = 0 := by omega
      clear hc
      go_enter Try.func117, Try.ntmps117
      go_wp2_with fail
      refine Calls.mono cm ?_
      rintro e w1 ⟨rfl, rfl⟩
      go_wp2_with fail
      refine Calls.mono c1 ?_
      rintro e w2 ⟨rfl, h2⟩
      go_wp2_with fail
      go_returns
      exact ⟨rfl, h2⟩
end Go.Proofs.Ytfgmeeponipjeaa
