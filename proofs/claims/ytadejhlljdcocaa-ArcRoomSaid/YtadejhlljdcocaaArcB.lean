/-
  An arc in memory: its four lists; Has, Len, Use.
-/
import Derived.Test.YtadejhlljdcocaaArc
namespace Go.Proofs.Ytadejhlljdcocaa
open Go.RowKit
set_option linter.unusedVariables false
set_option linter.unusedSimpArgs false

def upd {α : Type} (V : Nat → α) (k : Nat) (v : α) : Nat → α := fun i => if i = k then v else V i
theorem upd_at {α : Type} (V : Nat → α) (k : Nat) (v : α) : upd V k v k = v := if_pos rfl
theorem upd_ne {α : Type} (V : Nat → α) {k i : Nat} (v : α) (h : i ≠ k) : upd V k v i = V i := if_neg h
def arcC (R W : Int) (V : Nat → Value) : Array Value := #[.int .i64 R, .int .i64 W, V 0, V 1, V 2, V 3]
theorem arcC_at (R W : Int) (V : Nat → Value) (k : Nat) (hk : k < 4) : (arcC R W V)[2 + k]? = some (V k) := by
  match k, hk with
  | 0, _ => rfl
  | 1, _ => rfl
  | 2, _ => rfl
  | 3, _ => rfl
theorem arcC_put (R W : Int) (V : Nat → Value) (k : Nat) (hk : k < 4) (v : Value) : (arcC R W V).setIfInBounds (2 + k) v = arcC R W (upd V k v) := by
  match k, hk with
  | 0, _ => rfl
  | 1, _ => rfl
  | 2, _ => rfl
  | 3, _ => rfl
structure ArcAt (w : World) (N a : Nat) (R W : Int) (V : Nat → Value) (L : Nat → List Int) : Prop where
  low : N ≤ a
  obj : w.heap[a]? = some (.cells (arcC R W V) 147)
  row : ∀ i, i < 4 → RowAt w N (V i) (L i)
  dis : ∀ i j, i < 4 → j < 4 → i ≠ j → ∀ b, (V i).ownBlock = some b → (V j).ownBlock ≠ some b
/-- what a change of an arc leaves -/
structure ArcKept (w w' : World) (N a : Nat) (V V' : Nat → Value) : Prop where
  below : Below N w w'
  size : w.heap.size ≤ w'.heap.size
  block : ∀ j, j < w.heap.size → j ≠ a → (∀ i, i < 4 → some j ≠ (V i).ownBlock) → w'.heap[j]? = w.heap[j]?
  new : ∀ i, i < 4 → ∀ k, (V' i).ownBlock = some k → (∃ j, j < 4 ∧ (V j).ownBlock = some k) ∨ w.heap.size ≤ k
theorem ArcKept.refl (w : World) (N a : Nat) (V : Nat → Value) : ArcKept w w N a V V := ⟨Below.refl _ _, Nat.le_refl _, fun _ _ _ _ => rfl, fun i hi k e => .inl ⟨i, hi, e⟩⟩
theorem ArcKept.trans {x y z : World} {N a : Nat} {V U T : Nat → Value} (h : ArcKept x y N a V U) (g : ArcKept y z N a U T) : ArcKept x z N a V T := by
  refine ⟨h.below.trans g.below, Nat.le_trans h.size g.size, fun j hj hja hu => ?_, fun i hi k e => ?_⟩
  · refine (g.block j (Nat.lt_of_lt_of_le hj h.size) hja fun i hi e => ?_).trans (h.block j hj hja hu)
    rcases h.new i hi j e.symm with ⟨m, hm, q⟩ | q
    · exact hu m hm q.symm
    · omega
  · rcases g.new i hi k e with ⟨m, hm, q⟩ | q
    · exact h.new m hm k q
    · exact .inr (Nat.le_trans h.size q)
theorem ArcKept.of_below {w w' : World} {N a : Nat} {V : Nat → Value} (h : Below w.heap.size w w') (hN : N ≤ w.heap.size) : ArcKept w w' N a V V := ⟨h.mono hN, h.size, fun k hk _ _ => h.block k hk, fun i hi k e => .inl ⟨i, hi, e⟩⟩
theorem ArcAt.le {w : World} {N a : Nat} {R W : Int} {V : Nat → Value} {L : Nat → List Int} (h : ArcAt w N a R W V L) : N ≤ w.heap.size := Nat.le_trans h.low (Nat.le_of_lt (obj_lt h.obj))
theorem ArcAt.below {w w' : World} {N a : Nat} {R W : Int} {V : Nat → Value} {L : Nat → List Int} (h : ArcAt w N a R W V L) (hb : Below w.heap.size w w') : ArcAt w' N a R W V L :=
  ⟨h.low, (hb.block a (obj_lt h.obj)).trans h.obj, fun i hi => (h.row i hi).kept fun g hg => hb.block g ((h.row i hi).lt g hg), h.dis⟩
theorem ArcAt.ord {w : World} {N a : Nat} {R W : Int} {V : Nat → Value} {L : Nat → List Int} (h : ArcAt w N a R W V L) (k : Nat) (hk : k < 4) : OrdA w N a (2 + k) 147 (arcC R W V) (V k) (L k) :=
  ⟨h.low, h.obj, arcC_at R W V k hk, h.row k hk, by decide⟩
theorem ArcAt.step {w w' : World} {N a : Nat} {R W : Int} {V : Nat → Value} {L : Nat → List Int} (h : ArcAt w N a R W V L) (k : Nat) (hk : k < 4) {v' : Value} {l' : List Int} (ho : OrdA w' N a (2 + k) 147 ((arcC R W V).setIfInBounds (2 + k) v') v' l') (kk : AKept w w' N a (2 + k) 147 (arcC R W V) (V k) v') :
    ArcAt w' N a R W (upd V k v') (upd L k l') ∧ ArcKept w w' N a V (upd V k v') := by
  have hd : ∀ i, i < 4 → i ≠ k → ∀ b, (V i).ownBlock = some b → v'.ownBlock ≠ some b := by
    intro i hi hik b e q
    rcases kk.new with hn | hn
    · exact h.dis i k hi hk hik b e (hn ▸ q)
    · have := hn b q
      have := (h.row i hi).lt b e
      omega
  refine ⟨⟨h.low, by rw [← arcC_put R W V k hk]; exact ho.obj, fun i hi => ?_, fun i j hi hj hij b e => ?_⟩, ⟨kk.below, kk.size, fun j hj hja hu => kk.block j hj hja (hu k hk), fun i hi b e => ?_⟩⟩
  · by_cases hik : i = k
    · subst hik
      rw [upd_at, upd_at]
      exact ho.row
    · rw [upd_ne _ _ hik, upd_ne _ _ hik]
      refine (h.row i hi).kept fun g hg => kk.block g ((h.row i hi).lt g hg) (fun e => (h.row i hi).other h.obj (by decide) (e ▸ hg)) (fun e => h.dis i k hi hk hik g hg e.symm)
  · by_cases hik : i = k
    · subst hik
      rw [upd_at] at e
      rw [upd_ne _ _ (Ne.symm hij)]
      exact fun q => hd j hj (Ne.symm hij) b q e
    · rw [upd_ne _ _ hik] at e
      by_cases hjk : j = k
      · subst hjk
        rw [upd_at]
        exact hd i hi hik b e
      · rw [upd_ne _ _ hjk]
        exact h.dis i j hi hj hij b e
  · by_cases hik : i = k
    · subst hik
      rw [upd_at] at e
      rcases kk.new with hn | hn
      · exact .inl ⟨i, hk, hn ▸ e⟩
      · exact .inr (hn b e)
    · rw [upd_ne _ _ hik] at e
      exact .inl ⟨i, hi, e⟩
theorem ArcAt.rooms {w : World} {N a : Nat} {R W : Int} {V : Nat → Value} {L : Nat → List Int} (h : ArcAt w N a R W V L) : w.cell? ⟨a, 0, none⟩ = some (.int .i64 R) ∧ w.cell? ⟨a, 1, none⟩ = some (.int .i64 W) := by
  have ho := h.obj
  exact ⟨by simp [World.cell?, ho, arcC], by simp [World.cell?, ho, arcC]⟩
theorem amany0 (w : World) (N a : Nat) (R W : Int) (V : Nat → Value) (L : Nat → List Int) (h : ArcAt w N a R W V L) : Calls Try.prog 86 #[.pointer (some ⟨a, 0, none⟩), .int .i64 0] w fun e w' => e = .returned (.int .i64 (L 0).length) ∧ w = w' := by
  have c := olenA (L 0) w N a _ _ _ _ (h.ord 0 (by decide))
  go_enter Try.func86, Try.ntmps86
  go_wp2_with fail
  refine Calls.mono c ?_
  rintro e w1 ⟨rfl, rfl⟩
  go_wp2_with fail
  go_ret
  exact ⟨rfl, rfl⟩
theorem amany1 (w : World) (N a : Nat) (R W : Int) (V : Nat → Value) (L : Nat → List Int) (h : ArcAt w N a R W V L) : Calls Try.prog 86 #[.pointer (some ⟨a, 0, none⟩), .int .i64 1] w fun e w' => e = .returned (.int .i64 (L 1).length) ∧ w = w' := by
  have c := olenA (L 1) w N a _ _ _ _ (h.ord 1 (by decide))
  go_enter Try.func86, Try.ntmps86
  go_wp2_with fail
  refine Calls.mono c ?_
  rintro e w1 ⟨rfl, rfl⟩
  go_wp2_with fail
  go_ret
  exact ⟨rfl, rfl⟩
theorem amany2 (w : World) (N a : Nat) (R W : Int) (V : Nat → Value) (L : Nat → List Int) (h : ArcAt w N a R W V L) : Calls Try.prog 86 #[.pointer (some ⟨a, 0, none⟩), .int .i64 2] w fun e w' => e = .returned (.int .i64 (L 2).length) ∧ w = w' := by
  have c := olenA (L 2) w N a _ _ _ _ (h.ord 2 (by decide))
  go_enter Try.func86, Try.ntmps86
  go_wp2_with fail
  refine Calls.mono c ?_
  rintro e w1 ⟨rfl, rfl⟩
  go_wp2_with fail
  go_ret
  exact ⟨rfl, rfl⟩
theorem amany3 (w : World) (N a : Nat) (R W : Int) (V : Nat → Value) (L : Nat → List Int) (h : ArcAt w N a R W V L) : Calls Try.prog 86 #[.pointer (some ⟨a, 0, none⟩), .int .i64 3] w fun e w' => e = .returned (.int .i64 (L 3).length) ∧ w = w' := by
  have c := olenA (L 3) w N a _ _ _ _ (h.ord 3 (by decide))
  go_enter Try.func86, Try.ntmps86
  go_wp2_with fail
  refine Calls.mono c ?_
  rintro e w1 ⟨rfl, rfl⟩
  go_wp2_with fail
  go_ret
  exact ⟨rfl, rfl⟩
theorem ahas (n : Int) (w : World) (N a : Nat) (R W : Int) (V : Nat → Value) (L : Nat → List Int) (h : ArcAt w N a R W V L) : Calls Try.prog 34 #[.pointer (some ⟨a, 0, none⟩), .int .i64 n] w fun e w' => e = .returned (.bool ((L 0).contains n || (L 1).contains n)) ∧ w = w' := by
  have c0 := ohasA (L 0) n w N a _ _ _ _ (h.ord 0 (by decide))
  have c1 := ohasA (L 1) n w N a _ _ _ _ (h.ord 1 (by decide))
  cases hb : (L 0).contains n
  · rw [hb] at c0
    go_enter Try.func34, Try.ntmps34
    go_wp2_with fail
    refine Calls.mono c0 ?_
    rintro e w1 ⟨rfl, rfl⟩
    go_wp2_with fail
    refine Calls.mono c1 ?_
    rintro e w1 ⟨rfl, rfl⟩
    go_wp2_with fail
    go_ret
    exact ⟨by simp, rfl⟩
  · rw [hb] at c0
    go_enter Try.func34, Try.ntmps34
    go_wp2_with fail
    refine Calls.mono c0 ?_
    rintro e w1 ⟨rfl, rfl⟩
    go_wp2_with fail
    go_ret
    exact ⟨rfl, rfl⟩
theorem alen (w : World) (N a : Nat) (R W : Int) (V : Nat → Value) (L : Nat → List Int) (h : ArcAt w N a R W V L) (h0 : (L 0).length ≤ 1000) (h1 : (L 1).length ≤ 1000) : Calls Try.prog 32 #[.pointer (some ⟨a, 0, none⟩)] w fun e w' => e = .returned (.int .i64 ((L 0).length + (L 1).length)) ∧ w = w' := by
  have c0 := amany0 w N a R W V L h
  have c1 := amany1 w N a R W V L h
  generalize (L 0).length = n0 at *
  generalize (L 1).length = n1 at *
  go_enter Try.func32, Try.ntmps32
  go_wp2_with fail
  refine Calls.mono c0 ?_
  rintro e w1 ⟨rfl, rfl⟩
  go_wp2_with fail
  refine Calls.mono c1 ?_
  rintro e w1 ⟨rfl, rfl⟩
  go_wp2_with fail
  go_ret
  exact ⟨rfl, rfl⟩
theorem ause_room (n : Int) (w : World) (N a : Nat) (W : Int) (V : Nat → Value) (L : Nat → List Int) (h : ArcAt w N a 0 W V L) : Calls Try.prog 31 #[.pointer (some ⟨a, 0, none⟩), .int .i64 n] w fun e w' => e = .returned (.tuple #[.int .i64 0, .bool false]) ∧ w = w' := by
  obtain ⟨d0, d1⟩ := h.rooms
  go_enter Try.func31, Try.ntmps31
  go_wp2_with fail
  go_returns
  exact ⟨rfl, rfl⟩
set_option maxHeartbeats 1600000 in
theorem ause_has (n : Int) (w : World) (N a : Nat) (R W : Int) (V : Nat → Value) (L : Nat → List Int) (h : ArcAt w N a R W V L) (hR : 0 < R) (hn : ((L 0).contains n || (L 1).contains n) = true) (h0 : (L 0).length ≤ 1000) (h1 : (L 1).length ≤ 1000) : Calls Try.prog 31 #[.pointer (some ⟨a, 0, none⟩), .int .i64 n] w fun e w' => e = .returned (.tuple #[.int .i64 0, .bool false]) ∧ ∃ V', ArcAt w' N a R W V' (upd (upd L 0 ((L 0).erase n)) 1 (n :: (L 1).erase n)) ∧ ArcKept w w' N a V V' := by
  obtain ⟨d0, d1⟩ := h.rooms
  have ca := ahas n w N a R W V L h
  have cd := odropA (L 0) n w N a _ _ _ _ (h.ord 0 (by decide)) (by omega)
  rw [hn] at ca
  have hR2 : ¬ R = 0 := by omega
  go_enter Try.func31, Try.ntmps31
  go_wp2_with fail
  refine Calls.mono ca ?_
  rintro e w1 ⟨rfl, rfl⟩
  go_wp2_with fail
  refine Calls.mono cd ?_
  rintro e w1 ⟨rfl, v0, ho0, hk0⟩
  obtain ⟨hA1, hK1⟩ := h.step 0 (by decide) ho0 hk0
  have cu := ouseA (L 1) n w1 N a _ _ _ _ (hA1.ord 1 (by decide)) (by omega)
  have HK1 := Lib.hid hK1
  have HA1 := Lib.hid hA1
  clear hA1 hK1 ho0 hk0 cd ca d0 d1 h
  go_wp2_with fail
  refine Calls.mono cu ?_
  rintro e w2 ⟨rfl, v1, ho1, hk1⟩
  obtain ⟨hA2, hK2⟩ := HA1.out.step 1 (by decide) ho1 hk1
  clear ho1 hk1 cu
  go_wp2_with fail
  go_returns
  exact ⟨rfl, _, hA2, HK1.out.trans hK2⟩
end Go.Proofs.Ytadejhlljdcocaa
