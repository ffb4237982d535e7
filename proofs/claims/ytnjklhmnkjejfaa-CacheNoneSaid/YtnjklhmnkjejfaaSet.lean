/-
  items: a set of items in memory; New, Get, Len, All, Drop, Put.
-/
import Derived.Test.YtnjklhmnkjejfaaFind
import Derived.Test.YtnjklhmnkjejfaaIns
import Derived.Test.YtnjklhmnkjejfaaIputD
namespace Go.Proofs.Ytnjklhmnkjejfaa
open Go.RowKit
set_option linter.unusedVariables false
set_option linter.unusedSimpArgs false

/-- a set at block p has these items, in order; all that is its own lies from N on -/
def SetAt (w : World) (N p : Nat) (v : Value) (l : List HI) : Prop := N ≤ p ∧ w.heap[p]? = some (.cells #[v] 79) ∧ w.ownsRow N 45 3 v l.length (hCells l) ∧ Srt l
theorem SetAt.below {w w' : World} {N p : Nat} {v : Value} {l : List HI} (h : SetAt w N p v l) (hb : Below w.heap.size w w') : SetAt w' N p v l :=
  ⟨h.1, below_at hb (lt_heap h.2.1) h.2.1, owns_below h.2.2.1 hb, h.2.2.2⟩
theorem set_ne {w : World} {N p : Nat} {v : Value} {l : List HI} (h : SetAt w N p v l) : v.ownBlock ≠ some p := own_size h.2.2.1 h.2.1 (by decide)
/-- the row has been changed, and is laid into the set -/
theorem set_put {w w1 : World} {N p : Nat} {v v' : Value} {l m : List HI} (h : SetAt w N p v l) (hg : w.grownBy w1 v.ownBlock) (hr : w1.ownsRow N 45 3 v' m.length (hCells m)) (hn : NewRow w v v') (hs : Srt m) :
    SetAt (w1.setCell ⟨p, 0, none⟩ v') N p v' m ∧ OKept w (w1.setCell ⟨p, 0, none⟩ v') N p v v' := by
  obtain ⟨hN, hp, hr0, hs0⟩ := h
  have hne : v.ownBlock ≠ some p := own_size hr0 hp (by decide)
  have hp1 : w1.heap[p]? = some (.cells #[v] 79) := (hg.block p (lt_heap hp) (fun e => hne e.symm)).trans hp
  have hne1 : v'.ownBlock ≠ some p := own_size hr hp1 (by decide)
  refine ⟨⟨hN, ?_, ?_, hs⟩, ?_⟩
  · rw [heap_setCell_same _ _ _ _ _ _ hp1]
    rfl
  · refine hr.kept (row := some p) ⟨rfl, rfl, rfl, by simp, fun k hk hr => heap_setCell_other _ _ _ _ (fun e => hr (by rw [e]))⟩ (.inr hne1)
  · have hb : Below N w w1 := (Below.refl N w).grown hg (Nat.le_trans hN (Nat.le_of_lt (lt_heap hp))) (fun k hk => (hr0.lt k hk).1)
    have hb2 := hb.setCell (p := ⟨p, 0, none⟩) hN v'
    refine ⟨hb2, hb2.size |> fun _ => by simpa using hg.size, fun k hk hkp hu => ?_, hn⟩
    rw [heap_setCell_other _ _ _ _ hkp]
    exact hg.block k hk hu

theorem snew (w : World) : Calls Try.prog 50 #[] w fun e w' => e = .returned (.pointer (some ⟨w.heap.size, 0, none⟩)) ∧ w' = w.alloc (.cells #[.slice none 0 0] 79) := by
  go_enter Try.func50, Try.ntmps50
  go_wp2_with fail
  go_ret
  exact ⟨rfl, rfl⟩
theorem set_new (w : World) : SetAt (w.alloc (.cells #[.slice none 0 0] 79)) w.heap.size w.heap.size (.slice none 0 0) [] := ⟨Nat.le_refl _, heap_alloc_self _ _, World.ownsRow_nil _ _ _ _, Srt.nil⟩
set_option maxHeartbeats 1600000 in
set_option maxRecDepth 100000 in
theorem sall (w : World) (N p : Nat) (v : Value) (l : List HI) (h : SetAt w N p v l) :
    Calls Try.prog 37 #[.pointer (some ⟨p, 0, none⟩)] w fun e w' => ∃ v', e = .returned v' ∧ w'.ownsRow w.heap.size 45 3 v' l.length (hCells l) ∧ Below w.heap.size w w' := by
  obtain ⟨i0, hi, hz0, hz1, hz2⟩ := info_parts info_held
  have hl := h.2.2.2.len
  have hc := obj_cell h.2.1
  have HR := Lib.hid (SR.owns h.2.2.1)
  clear h
  go_enter Try.func37, Try.ntmps37
  go_wp2_with (at_builtin; refine wp_app Try.underlying41 hi hz0 hz1 hz2 rfl (by decide) rfl (.const (.slice none 0 0)) (.tmp 8) rfl w.heap.size (.slice none 0 0) 0 [] rfl (World.ownsRow_nil _ _ _ _) v l.length (hCells l) rfl HR.out ?c1 ?c2 ?c3 ?c4 ?_)
  case c1 => exact hCells_one l
  case c2 => unfold maxLen; omega
  case c3 => omega
  case c4 => exact Nat.le_refl _
  intro v' w2 hown2 hgr
  have HG := Lib.hid hgr
  have HO := Lib.hid hown2
  clear hgr hown2
  go_wp2_with fail
  go_ret
  refine ⟨_, rfl, ?_, below_app (Below.refl _ _) HG.out (World.ownsRow_nil w w.heap.size 45 3) (Nat.le_refl _) (Nat.le_refl _)⟩
  exact HO.out
/-- find: the place of a block, and whether it is there -/
def atL (l : List HI) (b : Int) : Nat := (l.takeWhile (fun h => decide (h.b < b))).length
theorem at_no {A B : List HI} {b : Int} (hA : ∀ h ∈ A, h.b < b) (hB : ∀ h ∈ B, b < h.b) : atL (A ++ B) b = A.length := by
  unfold atL
  rw [List.takeWhile_append_of_pos (by intro x hx; simpa using hA x hx)]
  cases B with
  | nil => simp
  | cons y t => have := hB y (by simp); rw [List.takeWhile_cons_of_neg (by simp; omega)]; simp
theorem at_yes {A B : List HI} {x : HI} {b : Int} (hA : ∀ h ∈ A, h.b < b) (hx : x.b = b) : atL (A ++ x :: B) b = A.length := by
  unfold atL
  rw [List.takeWhile_append_of_pos (by intro x hx; simpa using hA x hx), List.takeWhile_cons_of_neg (by simp; omega)]
  simp
set_option maxHeartbeats 1600000 in
theorem sfind (w : World) (N p : Nat) (v : Value) (l : List HI) (h : SetAt w N p v l) (b : Int) :
    Calls Try.prog 49 #[.pointer (some ⟨p, 0, none⟩), .int .i64 b] w fun e w' => e = .returned (.tuple #[.int .i64 (atL l b), .bool (getL l b).isSome]) ∧ Below w.heap.size w w' := by
  have hl := h.2.2.2.len
  have hs : ∀ w', Below w.heap.size w w' → Calls Try.prog 66 #[v, .int .i64 b, .func (.func 67) #[] #[]] w' fun e w'' => e = .returned (.tuple #[.int .i64 (atL l b), .bool (getL l b).isSome]) ∧ Below w'.heap.size w' w'' := fun w' hb => by
    have hv := (SR.owns h.2.2.1).below hb
    cases split_of l b h.2.2.2.pw with
    | no A B e hA hB =>
      subst e
      refine (search_any (A ++ B) b A.length (by simp) (by rw [List.take_left]; exact hA) (by rw [List.drop_left]; exact fun x hx => Int.le_of_lt (hB x hx)) w' v hv (by omega)).mono ?_
      rintro e w'' ⟨rfl, hb2⟩
      refine ⟨?_, hb2⟩
      rw [at_no hA hB, getL_no hA hB]
      congr 3
      cases B with
      | nil => simp
      | cons y t =>
        have h1 : (A ++ y :: t)[A.length]! = y := by rw [getElem!_pos _ _ (by simp)]; simp
        have := hB y (by simp)
        rw [h1]
        simp
        omega
    | yes A x B e hx hA hB =>
      subst e
      refine (search_any (A ++ x :: B) b A.length (by simp) (by rw [List.take_left]; exact hA) (by rw [List.drop_left]; exact fun y hy => by rcases List.mem_cons.1 hy with rfl | hy; omega; exact Int.le_of_lt (hB y hy)) w' v hv (by omega)).mono ?_
      rintro e w'' ⟨rfl, hb2⟩
      refine ⟨?_, hb2⟩
      rw [at_yes hA hx, getL_yes hA hx]
      congr 3
      have h1 : (A ++ x :: B)[A.length]! = x := by rw [getElem!_pos _ _ (by simp)]; simp
      rw [h1]
      simp [hx]
  have hc := obj_cell h.2.1
  obtain ⟨a, c, rfl, _, _⟩ := (SR.owns h.2.2.1).form
  clear h
  go_enter Try.func49, Try.ntmps49
  go_wp2_with fail
  refine Calls.mono (hs _ (Below.refl _ _)) ?_
  rintro e w1 ⟨rfl, hb⟩
  go_wp2_with fail
  go_returns
  exact ⟨rfl, hb⟩
theorem sget_no (w : World) (N p : Nat) (v : Value) (l : List HI) (h : SetAt w N p v l) (b : Int) (hn : getL l b = none) :
    Calls Try.prog 31 #[.pointer (some ⟨p, 0, none⟩), .int .i64 b] w fun e w' => e = .returned (.tuple #[.agg (itemA 0 ⟨#[]⟩), .bool false]) ∧ Below w.heap.size w w' := by
  have hb0 := (Below.refl w.heap.size w).alloc (Nat.le_refl _) (.cells #[.int .u64 0, .string ⟨#[]⟩] 24)
  have hf := sfind _ N p v l (h.below hb0) b
  rw [hn] at hf
  have hx := heap_alloc_self w (.cells #[.int .u64 0, .string ⟨#[]⟩] 24)
  clear h hn
  go_enter Try.func31, Try.ntmps31
  go_wp2_with fail
  refine Calls.mono hf ?_
  rintro e w1 ⟨rfl, hb1⟩
  have y := below_at hb1 (lt_heap hx) hx
  have HB := Lib.hid (hb0.trans (hb1.mono hb0.size))
  have f0 : w1.frozen? ⟨w.heap.size, 0, none⟩ = false := by simp [World.frozen?, y]
  have f1 : w1.frozen? ⟨w.heap.size, 1, none⟩ = false := by simp [World.frozen?, y]
  have d0 : w1.cell? ⟨w.heap.size, 0, none⟩ = some (.int .u64 0) := by simp [World.cell?, y]
  have d1 : w1.cell? ⟨w.heap.size, 1, none⟩ = some (.string ⟨#[]⟩) := by simp [World.cell?, y]
  clear hb1 hb0 hx
  go_wp2_with fail
  obtain ⟨s0, s1⟩ := item_over y 0 ⟨#[]⟩
  have FO := Lib.hid ((HB.out.setCell (p := ⟨w.heap.size, 0, none⟩) (Nat.le_refl _) (.int .u64 0)).setCell (p := ⟨w.heap.size, 1, none⟩) (Nat.le_refl _) (.string ⟨#[]⟩))
  generalize (w1.setCell ⟨w.heap.size, 0, none⟩ (.int .u64 0)).setCell ⟨w.heap.size, 1, none⟩ (.string ⟨#[]⟩) = w5 at *
  refine bodyPost_ret (v := .tuple #[.agg #[.int .u64 0, .string ⟨#[]⟩], .bool false]) (by simp [results, Try.results31, go_sem, s0, s1]) rfl ?_
  exact ⟨rfl, FO.out⟩
set_option maxHeartbeats 1600000 in
theorem sget_yes (w : World) (N p : Nat) (v : Value) (A B : List HI) (x : HI) (h : SetAt w N p v (A ++ x :: B)) :
    Calls Try.prog 31 #[.pointer (some ⟨p, 0, none⟩), .int .i64 x.b] w fun e w' => e = .returned (.tuple #[.agg (itemA x.v x.d), .bool true]) ∧ Below w.heap.size w w' := by
  have hb0 := (Below.refl w.heap.size w).alloc (Nat.le_refl _) (.cells #[.int .u64 0, .string ⟨#[]⟩] 24)
  have hf := sfind _ N p v _ (h.below hb0) x.b
  obtain ⟨hA, hB, _, _⟩ := srt_parts h.2.2.2.pw
  rw [getL_yes hA rfl, at_yes hA rfl] at hf
  have hx := heap_alloc_self w (.cells #[.int .u64 0, .string ⟨#[]⟩] 24)
  have hl := h.2.2.2.len
  have HH := Lib.hid h
  have hlt : A.length < (A ++ x :: B).length := by simp
  clear h hA hB
  go_enter Try.func31, Try.ntmps31
  go_wp2_with fail
  refine Calls.mono hf ?_
  rintro e w1 ⟨rfl, hb1⟩
  have y := below_at hb1 (lt_heap hx) hx
  have hbb := hb0.trans (hb1.mono hb0.size)
  have h1 := HH.out.below hbb
  have HB := Lib.hid hbb
  have f0 : w1.frozen? ⟨w.heap.size, 0, none⟩ = false := by simp [World.frozen?, y]
  have f1 : w1.frozen? ⟨w.heap.size, 1, none⟩ = false := by simp [World.frozen?, y]
  have d0 : w1.cell? ⟨w.heap.size, 0, none⟩ = some (.int .u64 0) := by simp [World.cell?, y]
  have d1 : w1.cell? ⟨w.heap.size, 1, none⟩ = some (.string ⟨#[]⟩) := by simp [World.cell?, y]
  have hc := obj_cell h1.2.1
  obtain ⟨a, c, rfl, hq1, hq2⟩ := (SR.owns h1.2.2.1).form
  obtain ⟨g, off, rfl, -, c0, c1, c2⟩ := sr_held (SR.owns h1.2.2.1) A.length x (by simp)
  unfold maxLen at hq2
  obtain ⟨n, hn⟩ : ∃ n, n = (A ++ x :: B).length := ⟨_, rfl⟩
  rw [← hn] at hlt hl hq1 hc
  clear hb1 hb0 hx h1 HH hn hbb
  go_wp2_with fail
  obtain ⟨s0, s1⟩ := item_over y x.v x.d
  have FO := Lib.hid ((HB.out.setCell (p := ⟨w.heap.size, 0, none⟩) (Nat.le_refl _) (.int .u64 x.v)).setCell (p := ⟨w.heap.size, 1, none⟩) (Nat.le_refl _) (.string x.d))
  generalize (w1.setCell ⟨w.heap.size, 0, none⟩ (.int .u64 x.v)).setCell ⟨w.heap.size, 1, none⟩ (.string x.d) = w5 at *
  refine bodyPost_ret (v := .tuple #[.agg #[.int .u64 x.v, .string x.d], .bool true]) (by simp [results, Try.results31, go_sem, s0, s1]) rfl ?_
  exact ⟨rfl, FO.out⟩
end Go.Proofs.Ytnjklhmnkjejfaa
