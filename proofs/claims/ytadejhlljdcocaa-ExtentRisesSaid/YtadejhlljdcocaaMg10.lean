/-
  Several texts, laid together.
-/
import Derived.Test.YtadejhlljdcocaaMg9
import Derived.Test.YtadejhlljdcocaaMg2
import Derived.Test.YtadejhlljdcocaaMg3
/-
  Items there and back: what was put is taken again (layer 8).
-/

namespace Go.Proofs.Ytadejhlljdcocaa
open Go.RowKit
set_option linter.unusedVariables false
set_option linter.unusedSimpArgs false

theorem Only.setOwn {b R : Nat} {w x : World} (h : Only b w x) (hR : w.heap.size ≤ R) (o : Nat) (u : Value) : Only b w (x.setCell ⟨R, o, none⟩ u) :=
  ⟨h.os, h.tape, h.output, by simpa using h.size, fun k hk hn => (Below.heap_setCell _ _ _ _ (by show k ≠ R; omega)).trans (h.block k hk hn)⟩
/-- an item's block, written anew -/
theorem item_set {w4 : World} {R : Nat} (y : w4.heap[R]? = some (.cells #[.int .u64 0, .string ⟨#[]⟩] 71)) (v : Int) (D : ByteArray) :
    ((w4.setCell ⟨R, 0, none⟩ (.int .u64 v)).setCell ⟨R, 1, none⟩ (.string D)).cell? ⟨R, 0, none⟩ = some (.int .u64 v) ∧ ((w4.setCell ⟨R, 0, none⟩ (.int .u64 v)).setCell ⟨R, 1, none⟩ (.string D)).cell? ⟨R, 1, none⟩ = some (.string D) := by
  have k2 := heap_set_self (heap_set_self y 0 (.int .u64 v)) 1 (.string D)
  exact ⟨by simp [World.cell?, k2], by simp [World.cell?, k2]⟩
end Go.Proofs.Ytadejhlljdcocaa
/-
  Items there and back: an item near another one (layer 8).
-/

namespace Go.Proofs.Ytadejhlljdcocaa
open Go.RowKit
set_option linter.unusedVariables false
set_option linter.unusedSimpArgs false

theorem item_over {w4 : World} {R : Nat} {u : Int} {E : ByteArray} (y : w4.heap[R]? = some (.cells #[.int .u64 u, .string E] 71)) (v : Int) (D : ByteArray) :
    ((w4.setCell ⟨R, 0, none⟩ (.int .u64 v)).setCell ⟨R, 1, none⟩ (.string D)).cell? ⟨R, 0, none⟩ = some (.int .u64 v) ∧ ((w4.setCell ⟨R, 0, none⟩ (.int .u64 v)).setCell ⟨R, 1, none⟩ (.string D)).cell? ⟨R, 1, none⟩ = some (.string D) := by
  have k2 := heap_set_self (heap_set_self y 0 (.int .u64 v)) 1 (.string D)
  exact ⟨by simp [World.cell?, k2], by simp [World.cell?, k2]⟩
set_option maxRecDepth 100000 in
theorem near08 (v : Int) (s : ByteArray) (odd : Int) (w : World) (hs : s.size ≤ maxLen) :
    Calls Try.prog 115 #[.agg (itemA v s), .int .i64 odd] w fun e w' => ∃ l : List UInt8, l.length ≤ 40 ∧ e = .returned (.agg (itemA v ⟨l.toArray⟩)) ∧ Below w.heap.size w w' := by
  unfold itemA
  obtain ⟨t, ht⟩ : ∃ t, min (s.size : Int) 40 = t := ⟨_, rfl⟩
  have ht1 : t ≤ 40 := by omega
  have ht2 : t ≤ (s.size : Int) := by omega
  have ht0 : 0 ≤ t := by omega
  obtain ⟨q, hq⟩ : ∃ q, min (s.size : Int) 9 = q := ⟨_, rfl⟩
  have hq1 : q ≤ 9 := by omega
  have hq2 : q ≤ (s.size : Int) := by omega
  have hq0 : 0 ≤ q := by omega
  have cb := fun w => block_any (⟨#[49]⟩ ++ s.extract 0 q.toNat) w (by
    have : (s.extract 0 q.toNat).size ≤ s.size := by rw [ByteArray.size_extract]; omega
    have h2 : (s.extract 0 q.toNat).size ≤ 9 := by rw [ByteArray.size_extract]; omega
    rw [ByteArray.size_append]; unfold maxLen; show 1 + _ ≤ _; omega)
  obtain ⟨m, hm⟩ : ∃ m, bits .and .i64 odd 7 = m := ⟨_, rfl⟩
  have hx0 := heap_alloc_self (w.alloc (.cells #[.int .u64 v, .string s] 71)) (.cells #[.int .u64 0, .string ⟨#[]⟩] 71)
  have hy0 := Below.heap_alloc (w.alloc (.cells #[.int .u64 v, .string s] 71)) (.cells #[.int .u64 0, .string ⟨#[]⟩] 71) w.heap.size (by simp)
  rw [heap_alloc_self] at hy0
  have hb0 : Below w.heap.size w ((w.alloc (.cells #[.int .u64 v, .string s] 71)).alloc (.cells #[.int .u64 0, .string ⟨#[]⟩] 71)) := ((Below.refl _ _).alloc (Nat.le_refl _) _).alloc (by simp) _
  rw [show (w.alloc (.cells #[.int .u64 v, .string s] 71)).heap.size = w.heap.size + 1 by simp] at hx0
  go_enter Try.func115, Try.ntmps115
  go_upto_region 1 with fail
  generalize (w.alloc (.cells #[.int .u64 v, .string s] 71)).alloc (.cells #[.int .u64 0, .string ⟨#[]⟩] 71) = w0 at *
  obtain ⟨B, hB⟩ : ∃ B, w.heap.size = B := ⟨_, rfl⟩
  rw [hB] at hx0 hy0 hb0
  try rw [hB]
  have a0 : w0.cell? ⟨B, 0, none⟩ = some (.int .u64 v) := by simp [World.cell?, hy0]
  have r0 : w0.cell? ⟨B + 1, 0, none⟩ = some (.int .u64 0) := by simp [World.cell?, hx0]
  have r1 : w0.cell? ⟨B + 1, 1, none⟩ = some (.string ⟨#[]⟩) := by simp [World.cell?, hx0]
  have g0 : w0.frozen? ⟨B + 1, 0, none⟩ = false := by simp [World.frozen?, hx0]
  have g1 : w0.frozen? ⟨B + 1, 1, none⟩ = false := by simp [World.frozen?, hx0]
  have hx1 := heap_set_self (heap_set_self hx0 0 (.int .u64 v)) 1 (.string ⟨#[]⟩)
  have hy1 : ((w0.setCell ⟨B + 1, 0, none⟩ (.int .u64 v)).setCell ⟨B + 1, 1, none⟩ (.string ⟨#[]⟩)).heap[B]? = _ := (Below.heap_setCell _ _ _ _ (by show B ≠ B + 1; omega)).trans ((Below.heap_setCell _ _ _ _ (by show B ≠ B + 1; omega)).trans hy0)
  have hb1 : Below B w ((w0.setCell ⟨B + 1, 0, none⟩ (.int .u64 v)).setCell ⟨B + 1, 1, none⟩ (.string ⟨#[]⟩)) := (hb0.setCell (Nat.le_succ B) _).setCell (Nat.le_succ B) _
  clear hx0 hy0 hb0
  go_upto_region 2 with fail
  generalize (w0.setCell ⟨B + 1, 0, none⟩ (.int .u64 v)).setCell ⟨B + 1, 1, none⟩ (.string ⟨#[]⟩) = w1 at *
  clear a0 r0 r1 g0 g1
  have hx2 : w1.heap[B + 1]? = some (.cells #[.int .u64 v, .string ⟨#[]⟩] 71) := by simpa using hx1
  have a0 : w1.cell? ⟨B, 0, none⟩ = some (.int .u64 v) := by simp [World.cell?, hy1]
  have a1 : w1.cell? ⟨B, 1, none⟩ = some (.string s) := by simp [World.cell?, hy1]
  have r0 : w1.cell? ⟨B + 1, 0, none⟩ = some (.int .u64 v) := by simp [World.cell?, hx2]
  have r1 : w1.cell? ⟨B + 1, 1, none⟩ = some (.string ⟨#[]⟩) := by simp [World.cell?, hx2]
  have g0 : w1.frozen? ⟨B + 1, 0, none⟩ = false := by simp [World.frozen?, hx2]
  have g1 : w1.frozen? ⟨B + 1, 1, none⟩ = false := by simp [World.frozen?, hx2]
  have HX := Lib.hid hx2
  have HB1 := Lib.hid hb1
  clear hx1 hx2 hy1 hb1
  by_cases hm0 : m = 0
  · subst hm0
    go_wp2_with fail
    (try simp only [Exit.inBlock, Exit.then])
    obtain ⟨s0, s1⟩ := item_over HX.out v ⟨#[]⟩
    have FO := Lib.hid ((HB1.out.setCell (p := ⟨B + 1, 0, none⟩) (Nat.le_succ B) (.int .u64 v)).setCell (p := ⟨B + 1, 1, none⟩) (Nat.le_succ B) (.string ⟨#[]⟩))
    generalize (w1.setCell ⟨B + 1, 0, none⟩ (.int .u64 v)).setCell ⟨B + 1, 1, none⟩ (.string ⟨#[]⟩) = w5 at *
    refine bodyPost_ret (v := .agg #[.int .u64 v, .string ⟨#[]⟩]) (by simp [results, Try.results115, go_sem, s0, s1]) rfl ?_
    exact ⟨[], by simp, rfl, by rw [hB]; exact FO.out⟩
  · by_cases hm1 : m = 1
    · subst hm1
      obtain ⟨E, hE⟩ : ∃ E : ByteArray, s.extract 0 t.toNat = E := ⟨_, rfl⟩
      have hEs : E.size ≤ 40 := by rw [← hE, ByteArray.size_extract]; omega
      have hy : (w1.setCell ⟨B + 1, 1, none⟩ (.string E)).heap[B + 1]? = some (.cells #[.int .u64 v, .string E] 71) := by simpa using heap_set_self HX.out 1 (.string E)
      have hb := HB1.out.setCell (p := ⟨B + 1, 1, none⟩) (Nat.le_succ B) (.string E)
      have HEs := Lib.hid hEs
      have HY := Lib.hid hy
      have HBB := Lib.hid hb
      clear hy hb hEs
      go_wp2_with fail
      (try simp only [Exit.inBlock, Exit.then])
      obtain ⟨s0, s1⟩ := item_over HY.out v E
      have FO := Lib.hid ((HBB.out.setCell (p := ⟨B + 1, 0, none⟩) (Nat.le_succ B) (.int .u64 v)).setCell (p := ⟨B + 1, 1, none⟩) (Nat.le_succ B) (.string E))
      generalize ((w1.setCell ⟨B + 1, 1, none⟩ (.string E)).setCell ⟨B + 1, 0, none⟩ (.int .u64 v)).setCell ⟨B + 1, 1, none⟩ (.string E) = w5 at *
      refine bodyPost_ret (v := .agg #[.int .u64 v, .string E]) (by simp [results, Try.results115, go_sem, s0, s1]) rfl ?_
      exact ⟨E.data.toList, HEs.out, rfl, by rw [hB]; exact FO.out⟩
    · have e0 : (m == 0) = false := by simpa using hm0
      have e1 : (m == 1) = false := by simpa using hm1
      go_wp2_with fail
      refine Calls.mono (cb _) ?_
      rintro e w2 ⟨T, rfl, hT, -, hb2⟩
      have hx := below_at hb2 (lt_heap HX.out) HX.out
      clear r0 r1 g0 g1 a0 a1
      have r0 : w2.cell? ⟨B + 1, 0, none⟩ = some (.int .u64 v) := by simp [World.cell?, hx]
      have r1 : w2.cell? ⟨B + 1, 1, none⟩ = some (.string ⟨#[]⟩) := by simp [World.cell?, hx]
      have g0 : w2.frozen? ⟨B + 1, 0, none⟩ = false := by simp [World.frozen?, hx]
      have g1 : w2.frozen? ⟨B + 1, 1, none⟩ = false := by simp [World.frozen?, hx]
      have hy : (w2.setCell ⟨B + 1, 1, none⟩ (.string T)).heap[B + 1]? = some (.cells #[.int .u64 v, .string T] 71) := by simpa using heap_set_self hx 1 (.string T)
      have hb := (HB1.out.trans (hb2.mono (by have := HB1.out.size; omega))).setCell (p := ⟨B + 1, 1, none⟩) (Nat.le_succ B) (.string T)
      have HEs := Lib.hid (show T.size ≤ 40 by omega)
      have HY := Lib.hid hy
      have HBB := Lib.hid hb
      clear hy hb hT hx hb2
      go_wp2_with fail
      (try simp only [Exit.inBlock, Exit.then])
      obtain ⟨s0, s1⟩ := item_over HY.out v T
      have FO := Lib.hid ((HBB.out.setCell (p := ⟨B + 1, 0, none⟩) (Nat.le_succ B) (.int .u64 v)).setCell (p := ⟨B + 1, 1, none⟩) (Nat.le_succ B) (.string T))
      generalize ((w2.setCell ⟨B + 1, 1, none⟩ (.string T)).setCell ⟨B + 1, 0, none⟩ (.int .u64 v)).setCell ⟨B + 1, 1, none⟩ (.string T) = w5 at *
      refine bodyPost_ret (v := .agg #[.int .u64 v, .string T]) (by simp [results, Try.results115, go_sem, s0, s1]) rfl ?_
      exact ⟨T.data.toList, HEs.out, rfl, by rw [hB]; exact FO.out⟩
end Go.Proofs.Ytadejhlljdcocaa
/-
  items: a set of items in memory; New, Get, Len, All, Drop, Put.
-/



namespace Go.Proofs.Ytadejhlljdcocaa
open Go.RowKit
set_option linter.unusedVariables false
set_option linter.unusedSimpArgs false

/-- a set at block p has these items, in order; all that is its own lies from N on -/
def SetAt (w : World) (N p : Nat) (v : Value) (l : List HI) : Prop := N ≤ p ∧ w.heap[p]? = some (.cells #[v] 203) ∧ w.ownsRow N 125 3 v l.length (hCells l) ∧ Srt l
theorem SetAt.below {w w' : World} {N p : Nat} {v : Value} {l : List HI} (h : SetAt w N p v l) (hb : Below w.heap.size w w') : SetAt w' N p v l :=
  ⟨h.1, below_at hb (lt_heap h.2.1) h.2.1, owns_below h.2.2.1 hb, h.2.2.2⟩
theorem set_ne {w : World} {N p : Nat} {v : Value} {l : List HI} (h : SetAt w N p v l) : v.ownBlock ≠ some p := own_size h.2.2.1 h.2.1 (by decide)
/-- the row has been changed, and is laid into the set -/
theorem set_put {w w1 : World} {N p : Nat} {v v' : Value} {l m : List HI} (h : SetAt w N p v l) (hg : w.grownBy w1 v.ownBlock) (hr : w1.ownsRow N 125 3 v' m.length (hCells m)) (hn : NewRow w v v') (hs : Srt m) :
    SetAt (w1.setCell ⟨p, 0, none⟩ v') N p v' m ∧ OKept w (w1.setCell ⟨p, 0, none⟩ v') N p v v' := by
  obtain ⟨hN, hp, hr0, hs0⟩ := h
  have hne : v.ownBlock ≠ some p := own_size hr0 hp (by decide)
  have hp1 : w1.heap[p]? = some (.cells #[v] 203) := (hg.block p (lt_heap hp) (fun e => hne e.symm)).trans hp
  have hne1 : v'.ownBlock ≠ some p := own_size hr hp1 (by decide)
  refine ⟨⟨hN, ?_, ?_, hs⟩, ?_⟩
  · rw [heap_setCell_same _ _ _ _ _ _ hp1]
    rfl
  · refine hr.kept (row := some p) ⟨rfl, rfl, rfl, by simp, fun k hk hr => heap_setCell_other _ _ _ _ (fun e => hr (by rw [e]))⟩ (.inr hne1)
  · have hb : Below N w w1 := (Below.refl N w).grown hg (Nat.le_trans hN (Nat.le_of_lt (lt_heap hp))) (fun k hk => (hr0.lt k hk).1)
    have hb2 := hb.setCell (p := ⟨p, 0, none⟩) hN v'
    refine ⟨hb2, hb2.size |> fun _ => by simpa using hg.size, fun k hk hkp hu => ?_, hn⟩
    rw [heap_setCell_other _ _ _ _ hkp]
    exact hg.block k hk hu

theorem snew (w : World) : Calls Try.prog 90 #[] w fun e w' => e = .returned (.pointer (some ⟨w.heap.size, 0, none⟩)) ∧ w' = w.alloc (.cells #[.slice none 0 0] 203) := by
  go_enter Try.func90, Try.ntmps90
  go_wp2_with fail
  go_ret
  exact ⟨rfl, rfl⟩
theorem set_new (w : World) : SetAt (w.alloc (.cells #[.slice none 0 0] 203)) w.heap.size w.heap.size (.slice none 0 0) [] := ⟨Nat.le_refl _, heap_alloc_self _ _, World.ownsRow_nil _ _ _ _, Srt.nil⟩
set_option maxHeartbeats 1600000 in
set_option maxRecDepth 100000 in
theorem sall (w : World) (N p : Nat) (v : Value) (l : List HI) (h : SetAt w N p v l) :
    Calls Try.prog 104 #[.pointer (some ⟨p, 0, none⟩)] w fun e w' => ∃ v', e = .returned v' ∧ w'.ownsRow w.heap.size 125 3 v' l.length (hCells l) ∧ Below w.heap.size w w' := by
  obtain ⟨i0, hi, hz0, hz1, hz2⟩ := info_parts info_held
  have hl := h.2.2.2.len
  have hc := obj_cell h.2.1
  have HR := Lib.hid (SR.owns h.2.2.1)
  clear h
  go_enter Try.func104, Try.ntmps104
  go_wp2_with (at_builtin; refine wp_app Try.underlying81 hi hz0 hz1 hz2 rfl (by decide) rfl (.const (.slice none 0 0)) (.tmp 8) rfl w.heap.size (.slice none 0 0) 0 [] rfl (World.ownsRow_nil _ _ _ _) v l.length (hCells l) rfl HR.out ?c1 ?c2 ?c3 ?c4 ?_)
  case c1 => exact hCells_one l
  case c2 => unfold maxLen; omega
  case c3 => omega
  case c4 => exact Nat.le_refl _
  intro v' w2 hown2 hgr
  have HG := Lib.hid hgr
  have HO := Lib.hid hown2
  clear hgr hown2
  go_wp2_with fail
  go_ret
  refine ⟨_, rfl, ?_, below_app (Below.refl _ _) HG.out (World.ownsRow_nil w w.heap.size 125 3) (Nat.le_refl _) (Nat.le_refl _)⟩
  exact HO.out
/-- find: the place of a block, and whether it is there -/
def atL (l : List HI) (b : Int) : Nat := (l.takeWhile (fun h => decide (h.b < b))).length
theorem at_no {A B : List HI} {b : Int} (hA : ∀ h ∈ A, h.b < b) (hB : ∀ h ∈ B, b < h.b) : atL (A ++ B) b = A.length := by
  unfold atL
  rw [List.takeWhile_append_of_pos (by intro x hx; simpa using hA x hx)]
  cases B with
  | nil => simp
  | cons y t => have := hB y (by simp); rw [List.takeWhile_cons_of_neg (by simp; omega)]; simp
theorem at_yes {A B : List HI} {x : HI} {b : Int} (hA : ∀ h ∈ A, h.b < b) (hx : x.b = b) : atL (A ++ x :: B) b = A.length := by
  unfold atL
  rw [List.takeWhile_append_of_pos (by intro x hx; simpa using hA x hx), List.takeWhile_cons_of_neg (by simp; omega)]
  simp
set_option maxHeartbeats 1600000 in
theorem sfind (w : World) (N p : Nat) (v : Value) (l : List HI) (h : SetAt w N p v l) (b : Int) :
    Calls Try.prog 143 #[.pointer (some ⟨p, 0, none⟩), .int .i64 b] w fun e w' => e = .returned (.tuple #[.int .i64 (atL l b), .bool (getL l b).isSome]) ∧ Below w.heap.size w w' := by
  have hl := h.2.2.2.len
  have hs : ∀ w', Below w.heap.size w w' → Calls Try.prog 182 #[v, .int .i64 b, .func (.func 183) #[] #[]] w' fun e w'' => e = .returned (.tuple #[.int .i64 (atL l b), .bool (getL l b).isSome]) ∧ Below w'.heap.size w' w'' := fun w' hb => by
    have hv := (SR.owns h.2.2.1).below hb
    cases split_of l b h.2.2.2.pw with
    | no A B e hA hB =>
      subst e
      refine (search_any (A ++ B) b A.length (by simp) (by rw [List.take_left]; exact hA) (by rw [List.drop_left]; exact fun x hx => Int.le_of_lt (hB x hx)) w' v hv (by omega)).mono ?_
      rintro e w'' ⟨rfl, hb2⟩
      refine ⟨?_, hb2⟩
      rw [at_no hA hB, getL_no hA hB]
      congr 3
      cases B with
      | nil => simp
      | cons y t =>
        have h1 : (A ++ y :: t)[A.length]! = y := by rw [getElem!_pos _ _ (by simp)]; simp
        have := hB y (by simp)
        rw [h1]
        simp
        omega
    | yes A x B e hx hA hB =>
      subst e
      refine (search_any (A ++ x :: B) b A.length (by simp) (by rw [List.take_left]; exact hA) (by rw [List.drop_left]; exact fun y hy => by rcases List.mem_cons.1 hy with rfl | hy; omega; exact Int.le_of_lt (hB y hy)) w' v hv (by omega)).mono ?_
      rintro e w'' ⟨rfl, hb2⟩
      refine ⟨?_, hb2⟩
      rw [at_yes hA hx, getL_yes hA hx]
      congr 3
      have h1 : (A ++ x :: B)[A.length]! = x := by rw [getElem!_pos _ _ (by simp)]; simp
      rw [h1]
      simp [hx]
  have hc := obj_cell h.2.1
  obtain ⟨a, c, rfl, _, _⟩ := (SR.owns h.2.2.1).form
  clear h
  go_enter Try.func143, Try.ntmps143
  go_wp2_with fail
  refine Calls.mono (hs _ (Below.refl _ _)) ?_
  rintro e w1 ⟨rfl, hb⟩
  go_wp2_with fail
  go_returns
  exact ⟨rfl, hb⟩
theorem sget_no (w : World) (N p : Nat) (v : Value) (l : List HI) (h : SetAt w N p v l) (b : Int) (hn : getL l b = none) :
    Calls Try.prog 96 #[.pointer (some ⟨p, 0, none⟩), .int .i64 b] w fun e w' => e = .returned (.tuple #[.agg (itemA 0 ⟨#[]⟩), .bool false]) ∧ Below w.heap.size w w' := by
  have hb0 := (Below.refl w.heap.size w).alloc (Nat.le_refl _) (.cells #[.int .u64 0, .string ⟨#[]⟩] 71)
  have hf := sfind _ N p v l (h.below hb0) b
  rw [hn] at hf
  have hx := heap_alloc_self w (.cells #[.int .u64 0, .string ⟨#[]⟩] 71)
  clear h hn
  go_enter Try.func96, Try.ntmps96
  go_wp2_with fail
  refine Calls.mono hf ?_
  rintro e w1 ⟨rfl, hb1⟩
  have y := below_at hb1 (lt_heap hx) hx
  have HB := Lib.hid (hb0.trans (hb1.mono hb0.size))
  have f0 : w1.frozen? ⟨w.heap.size, 0, none⟩ = false := by simp [World.frozen?, y]
  have f1 : w1.frozen? ⟨w.heap.size, 1, none⟩ = false := by simp [World.frozen?, y]
  have d0 : w1.cell? ⟨w.heap.size, 0, none⟩ = some (.int .u64 0) := by simp [World.cell?, y]
  have d1 : w1.cell? ⟨w.heap.size, 1, none⟩ = some (.string ⟨#[]⟩) := by simp [World.cell?, y]
  clear hb1 hb0 hx
  go_wp2_with fail
  obtain ⟨s0, s1⟩ := item_over y 0 ⟨#[]⟩
  have FO := Lib.hid ((HB.out.setCell (p := ⟨w.heap.size, 0, none⟩) (Nat.le_refl _) (.int .u64 0)).setCell (p := ⟨w.heap.size, 1, none⟩) (Nat.le_refl _) (.string ⟨#[]⟩))
  generalize (w1.setCell ⟨w.heap.size, 0, none⟩ (.int .u64 0)).setCell ⟨w.heap.size, 1, none⟩ (.string ⟨#[]⟩) = w5 at *
  refine bodyPost_ret (v := .tuple #[.agg #[.int .u64 0, .string ⟨#[]⟩], .bool false]) (by simp [results, Try.results96, go_sem, s0, s1]) rfl ?_
  exact ⟨rfl, FO.out⟩
set_option maxHeartbeats 1600000 in
theorem sget_yes (w : World) (N p : Nat) (v : Value) (A B : List HI) (x : HI) (h : SetAt w N p v (A ++ x :: B)) :
    Calls Try.prog 96 #[.pointer (some ⟨p, 0, none⟩), .int .i64 x.b] w fun e w' => e = .returned (.tuple #[.agg (itemA x.v x.d), .bool true]) ∧ Below w.heap.size w w' := by
  have hb0 := (Below.refl w.heap.size w).alloc (Nat.le_refl _) (.cells #[.int .u64 0, .string ⟨#[]⟩] 71)
  have hf := sfind _ N p v _ (h.below hb0) x.b
  obtain ⟨hA, hB, _, _⟩ := srt_parts h.2.2.2.pw
  rw [getL_yes hA rfl, at_yes hA rfl] at hf
  have hx := heap_alloc_self w (.cells #[.int .u64 0, .string ⟨#[]⟩] 71)
  have hl := h.2.2.2.len
  have HH := Lib.hid h
  have hlt : A.length < (A ++ x :: B).length := by simp
  clear h hA hB
  go_enter Try.func96, Try.ntmps96
  go_wp2_with fail
  refine Calls.mono hf ?_
  rintro e w1 ⟨rfl, hb1⟩
  have y := below_at hb1 (lt_heap hx) hx
  have hbb := hb0.trans (hb1.mono hb0.size)
  have h1 := HH.out.below hbb
  have HB := Lib.hid hbb
  have f0 : w1.frozen? ⟨w.heap.size, 0, none⟩ = false := by simp [World.frozen?, y]
  have f1 : w1.frozen? ⟨w.heap.size, 1, none⟩ = false := by simp [World.frozen?, y]
  have d0 : w1.cell? ⟨w.heap.size, 0, none⟩ = some (.int .u64 0) := by simp [World.cell?, y]
  have d1 : w1.cell? ⟨w.heap.size, 1, none⟩ = some (.string ⟨#[]⟩) := by simp [World.cell?, y]
  have hc := obj_cell h1.2.1
  obtain ⟨a, c, rfl, hq1, hq2⟩ := (SR.owns h1.2.2.1).form
  obtain ⟨g, off, rfl, -, c0, c1, c2⟩ := sr_held (SR.owns h1.2.2.1) A.length x (by simp)
  unfold maxLen at hq2
  obtain ⟨n, hn⟩ : ∃ n, n = (A ++ x :: B).length := ⟨_, rfl⟩
  rw [← hn] at hlt hl hq1 hc
  clear hb1 hb0 hx h1 HH hn hbb
  go_wp2_with fail
  obtain ⟨s0, s1⟩ := item_over y x.v x.d
  have FO := Lib.hid ((HB.out.setCell (p := ⟨w.heap.size, 0, none⟩) (Nat.le_refl _) (.int .u64 x.v)).setCell (p := ⟨w.heap.size, 1, none⟩) (Nat.le_refl _) (.string x.d))
  generalize (w1.setCell ⟨w.heap.size, 0, none⟩ (.int .u64 x.v)).setCell ⟨w.heap.size, 1, none⟩ (.string x.d) = w5 at *
  refine bodyPost_ret (v := .tuple #[.agg #[.int .u64 x.v, .string x.d], .bool true]) (by simp [results, Try.results96, go_sem, s0, s1]) rfl ?_
  exact ⟨rfl, FO.out⟩
end Go.Proofs.Ytadejhlljdcocaa
