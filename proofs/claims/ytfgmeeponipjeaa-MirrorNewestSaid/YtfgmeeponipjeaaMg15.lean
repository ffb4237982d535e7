/-
  Several texts, laid together.
-/
import Derived.Test.YtfgmeeponipjeaaMg7
import Derived.Test.YtfgmeeponipjeaaMg14
/-
  items: a set of items in memory; New, Get, Len, All, Drop, Put.
-/



namespace Go.Proofs.Ytfgmeeponipjeaa
open Go.RowKit
set_option linter.unusedVariables false
set_option linter.unusedSimpArgs false

/-- a set at block p has these items, in order; all that is its own lies from N on -/
def SetAt (w : World) (N p : Nat) (v : Value) (l : List HI) : Prop := N ≤ p ∧ w.heap[p]? = some (.cells #[v] 122) ∧ w.ownsRow N 131 3 v l.length (hCells l) ∧ Srt l
theorem SetAt.below {w w' : World} {N p : Nat} {v : Value} {l : List HI} (h : SetAt w N p v l) (hb : Below w.heap.size w w') : SetAt w' N p v l :=
  ⟨h.1, below_at hb (lt_heap h.2.1) h.2.1, owns_below h.2.2.1 hb, h.2.2.2⟩
theorem set_ne {w : World} {N p : Nat} {v : Value} {l : List HI} (h : SetAt w N p v l) : v.ownBlock ≠ some p := own_size h.2.2.1 h.2.1 (by decide)
/-- the row has been changed, and is laid into the set -/
theorem set_put {w w1 : World} {N p : Nat} {v v' : Value} {l m : List HI} (h : SetAt w N p v l) (hg : w.grownBy w1 v.ownBlock) (hr : w1.ownsRow N 131 3 v' m.length (hCells m)) (hn : NewRow w v v') (hs : Srt m) :
    SetAt (w1.setCell ⟨p, 0, none⟩ v') N p v' m ∧ OKept w (w1.setCell ⟨p, 0, none⟩ v') N p v v' := by
  obtain ⟨hN, hp, hr0, hs0⟩ := h
  have hne : v.ownBlock ≠ some p := own_size hr0 hp (by decide)
  have hp1 : w1.heap[p]? = some (.cells #[v] 122) := (hg.block p (lt_heap hp) (fun e => hne e.symm)).trans hp
  have hne1 : v'.ownBlock ≠ some p := own_size hr hp1 (by decide)
  refine ⟨⟨hN, ?_, ?_, hs⟩, ?_⟩
  · rw [heap_setCell_same _ _ _ _ _ _ hp1]
    rfl
  · refine hr.kept (row := some p) ⟨rfl, rfl, rfl, by simp, fun k hk hr => heap_setCell_other _ _ _ _ (fun e => hr (by rw [e]))⟩ (.inr hne1)
  · have hb : Below N w w1 := (Below.refl N w).grown hg (Nat.le_trans hN (Nat.le_of_lt (lt_heap hp))) (fun k hk => (hr0.lt k hk).1)
    have hb2 := hb.setCell (p := ⟨p, 0, none⟩) hN v'
    refine ⟨hb2, hb2.size |> fun _ => by simpa using hg.size, fun k hk hkp hu => ?_, hn⟩
    rw [heap_setCell_other _ _ _ _ hkp]
    exact hg.block k hk hu

theorem snew (w : World) : Calls Try.prog 47 #[] w fun e w' => e = .returned (.pointer (some ⟨w.heap.size, 0, none⟩)) ∧ w' = w.alloc (.cells #[.slice none 0 0] 122) := by
  go_enter Try.func47, Try.ntmps47
  go_wp2_with fail
  go_ret
  exact ⟨rfl, rfl⟩
theorem set_new (w : World) : SetAt (w.alloc (.cells #[.slice none 0 0] 122)) w.heap.size w.heap.size (.slice none 0 0) [] := ⟨Nat.le_refl _, heap_alloc_self _ _, World.ownsRow_nil _ _ _ _, Srt.nil⟩
/-- find: the place of a block, and whether it is there -/
def atL (l : List HI) (b : Int) : Nat := (l.takeWhile (fun h => decide (h.b < b))).length
theorem at_no {A B : List HI} {b : Int} (hA : ∀ h ∈ A, h.b < b) (hB : ∀ h ∈ B, b < h.b) : atL (A ++ B) b = A.length := by
  unfold atL
  rw [List.takeWhile_append_of_pos (by intro x hx; simpa using hA x hx)]
  cases B with
  | nil => simp
  | cons y t => have := hB y (by simp); rw [List.takeWhile_cons_of_neg (by simp; omega)]; simp
theorem at_yes {A B : List HI} {x : HI} {b : Int} (hA : ∀ h ∈ A, h.b < b) (hx : x.b = b) : atL (A ++ x :: B) b = A.length := by
  unfold atL
  rw [List.takeWhile_append_of_pos (by intro x hx; simpa using hA x hx), List.takeWhile_cons_of_neg (by simp; omega)]
  simp
set_option maxHeartbeats 1600000 in
theorem sfind (w : World) (N p : Nat) (v : Value) (l : List HI) (h : SetAt w N p v l) (b : Int) :
    Calls Try.prog 76 #[.pointer (some ⟨p, 0, none⟩), .int .i64 b] w fun e w' => e = .returned (.tuple #[.int .i64 (atL l b), .bool (getL l b).isSome]) ∧ Below w.heap.size w w' := by
  have hl := h.2.2.2.len
  have hs : ∀ w', Below w.heap.size w w' → Calls Try.prog 91 #[v, .int .i64 b, .func (.func 92) #[] #[]] w' fun e w'' => e = .returned (.tuple #[.int .i64 (atL l b), .bool (getL l b).isSome]) ∧ Below w'.heap.size w' w'' := fun w' hb => by
    have hv := (SR.owns h.2.2.1).below hb
    cases split_of l b h.2.2.2.pw with
    | no A B e hA hB =>
      subst e
      refine (search_any (A ++ B) b A.length (by simp) (by rw [List.take_left]; exact hA) (by rw [List.drop_left]; exact fun x hx => Int.le_of_lt (hB x hx)) w' v hv (by omega)).mono ?_
      rintro e w'' ⟨rfl, hb2⟩
      refine ⟨?_, hb2⟩
      rw [at_no hA hB, getL_no hA hB]
      congr 3
      cases B with
      | nil => simp
      | cons y t =>
        have h1 : (A ++ y :: t)[A.length]! = y := by rw [getElem!_pos _ _ (by simp)]; simp
        have := hB y (by simp)
        rw [h1]
        simp
        omega
    | yes A x B e hx hA hB =>
      subst e
      refine (search_any (A ++ x :: B) b A.length (by simp) (by rw [List.take_left]; exact hA) (by rw [List.drop_left]; exact fun y hy => by rcases List.mem_cons.1 hy with rfl | hy; omega; exact Int.le_of_lt (hB y hy)) w' v hv (by omega)).mono ?_
      rintro e w'' ⟨rfl, hb2⟩
      refine ⟨?_, hb2⟩
      rw [at_yes hA hx, getL_yes hA hx]
      congr 3
      have h1 : (A ++ x :: B)[A.length]! = x := by rw [getElem!_pos _ _ (by simp)]; simp
      rw [h1]
      simp [hx]
  have hc := obj_cell h.2.1
  obtain ⟨a, c, rfl, _, _⟩ := (SR.owns h.2.2.1).form
  clear h
  go_enter Try.func76, Try.ntmps76
  go_wp2_with fail
  refine Calls.mono (hs _ (Below.refl _ _)) ?_
  rintro e w1 ⟨rfl, hb⟩
  go_wp2_with fail
  go_returns
  exact ⟨rfl, hb⟩
theorem sget_no (w : World) (N p : Nat) (v : Value) (l : List HI) (h : SetAt w N p v l) (b : Int) (hn : getL l b = none) :
    Calls Try.prog 53 #[.pointer (some ⟨p, 0, none⟩), .int .i64 b] w fun e w' => e = .returned (.tuple #[.agg (itemA 0 ⟨#[]⟩), .bool false]) ∧ Below w.heap.size w w' := by
  have hb0 := (Below.refl w.heap.size w).alloc (Nat.le_refl _) (.cells #[.int .u64 0, .string ⟨#[]⟩] 54)
  have hf := sfind _ N p v l (h.below hb0) b
  rw [hn] at hf
  have hx := heap_alloc_self w (.cells #[.int .u64 0, .string ⟨#[]⟩] 54)
  clear h hn
  go_enter Try.func53, Try.ntmps53
  go_wp2_with fail
  refine Calls.mono hf ?_
  rintro e w1 ⟨rfl, hb1⟩
  have y := below_at hb1 (lt_heap hx) hx
  have HB := Lib.hid (hb0.trans (hb1.mono hb0.size))
  have f0 : w1.frozen? ⟨w.heap.size, 0, none⟩ = false := by simp [World.frozen?, y]
  have f1 : w1.frozen? ⟨w.heap.size, 1, none⟩ = false := by simp [World.frozen?, y]
  have d0 : w1.cell? ⟨w.heap.size, 0, none⟩ = some (.int .u64 0) := by simp [World.cell?, y]
  have d1 : w1.cell? ⟨w.heap.size, 1, none⟩ = some (.string ⟨#[]⟩) := by simp [World.cell?, y]
  clear hb1 hb0 hx
  go_wp2_with fail
  obtain ⟨s0, s1⟩ := item_over y 0 ⟨#[]⟩
  have FO := Lib.hid ((HB.out.setCell (p := ⟨w.heap.size, 0, none⟩) (Nat.le_refl _) (.int .u64 0)).setCell (p := ⟨w.heap.size, 1, none⟩) (Nat.le_refl _) (.string ⟨#[]⟩))
  generalize (w1.setCell ⟨w.heap.size, 0, none⟩ (.int .u64 0)).setCell ⟨w.heap.size, 1, none⟩ (.string ⟨#[]⟩) = w5 at *
  refine bodyPost_ret (v := .tuple #[.agg #[.int .u64 0, .string ⟨#[]⟩], .bool false]) (by simp [results, Try.results53, go_sem, s0, s1]) rfl ?_
  exact ⟨rfl, FO.out⟩
set_option maxHeartbeats 1600000 in
theorem sget_yes (w : World) (N p : Nat) (v : Value) (A B : List HI) (x : HI) (h : SetAt w N p v (A ++ x :: B)) :
    Calls Try.prog 53 #[.pointer (some ⟨p, 0, none⟩), .int .i64 x.b] w fun e w' => e = .returned (.tuple #[.agg (itemA x.v x.d), .bool true]) ∧ Below w.heap.size w w' := by
  have hb0 := (Below.refl w.heap.size w).alloc (Nat.le_refl _) (.cells #[.int .u64 0, .string ⟨#[]⟩] 54)
  have hf := sfind _ N p v _ (h.below hb0) x.b
  obtain ⟨hA, hB, _, _⟩ := srt_parts h.2.2.2.pw
  rw [getL_yes hA rfl, at_yes hA rfl] at hf
  have hx := heap_alloc_self w (.cells #[.int .u64 0, .string ⟨#[]⟩] 54)
  have hl := h.2.2.2.len
  have HH := Lib.hid h
  have hlt : A.length < (A ++ x :: B).length := by simp
  clear h hA hB
  go_enter Try.func53, Try.ntmps53
  go_wp2_with fail
  refine Calls.mono hf ?_
  rintro e w1 ⟨rfl, hb1⟩
  have y := below_at hb1 (lt_heap hx) hx
  have hbb := hb0.trans (hb1.mono hb0.size)
  have h1 := HH.out.below hbb
  have HB := Lib.hid hbb
  have f0 : w1.frozen? ⟨w.heap.size, 0, none⟩ = false := by simp [World.frozen?, y]
  have f1 : w1.frozen? ⟨w.heap.size, 1, none⟩ = false := by simp [World.frozen?, y]
  have d0 : w1.cell? ⟨w.heap.size, 0, none⟩ = some (.int .u64 0) := by simp [World.cell?, y]
  have d1 : w1.cell? ⟨w.heap.size, 1, none⟩ = some (.string ⟨#[]⟩) := by simp [World.cell?, y]
  have hc := obj_cell h1.2.1
  obtain ⟨a, c, rfl, hq1, hq2⟩ := (SR.owns h1.2.2.1).form
  obtain ⟨g, off, rfl, -, c0, c1, c2⟩ := sr_held (SR.owns h1.2.2.1) A.length x (by simp)
  unfold maxLen at hq2
  obtain ⟨n, hn⟩ : ∃ n, n = (A ++ x :: B).length := ⟨_, rfl⟩
  rw [← hn] at hlt hl hq1 hc
  clear hb1 hb0 hx h1 HH hn hbb
  go_wp2_with fail
  obtain ⟨s0, s1⟩ := item_over y x.v x.d
  have FO := Lib.hid ((HB.out.setCell (p := ⟨w.heap.size, 0, none⟩) (Nat.le_refl _) (.int .u64 x.v)).setCell (p := ⟨w.heap.size, 1, none⟩) (Nat.le_refl _) (.string x.d))
  generalize (w1.setCell ⟨w.heap.size, 0, none⟩ (.int .u64 x.v)).setCell ⟨w.heap.size, 1, none⟩ (.string x.d) = w5 at *
  refine bodyPost_ret (v := .tuple #[.agg #[.int .u64 x.v, .string x.d], .bool true]) (by simp [results, Try.results53, go_sem, s0, s1]) rfl ?_
  exact ⟨rfl, FO.out⟩
end Go.Proofs.Ytfgmeeponipjeaa
/-
  items: Drop and Put of a set.
-/

namespace Go.Proofs.Ytfgmeeponipjeaa
open Go.RowKit
set_option linter.unusedVariables false
set_option linter.unusedSimpArgs false

theorem okept_drew {w w' : World} {N p : Nat} {v v' : Value} (h : OKept w.drew w' N p v v') : OKept w w' N p v v' := ⟨⟨h.below.os, h.below.tape, h.below.output, h.below.size, h.below.block⟩, h.size, h.block, h.new⟩
theorem okept_drew2 {w w' : World} {N p : Nat} {v v' : Value} (h : OKept w w' N p v v') : OKept w w'.drew N p v v' := ⟨⟨h.below.os, h.below.tape, h.below.output, h.below.size, h.below.block⟩, h.size, h.block, h.new⟩
theorem SetAt.drew {w : World} {N p : Nat} {v : Value} {l : List HI} (h : SetAt w N p v l) : SetAt w.drew N p v l := h
theorem sdrop_no (w : World) (N p : Nat) (v : Value) (l : List HI) (h : SetAt w N p v l) (b ver : Int) (hn : getL l b = none) :
    Calls Try.prog 54 #[.pointer (some ⟨p, 0, none⟩), .int .i64 b, .int .u64 ver] w fun e w' => e = .returned (.bool false) ∧ Below w.heap.size w w' := by
  have hf := sfind _ N p v l h b
  rw [hn] at hf
  clear h hn
  go_enter Try.func54, Try.ntmps54
  go_wp2_with fail
  refine Calls.mono hf ?_
  rintro e w1 ⟨rfl, hb1⟩
  go_wp2_with fail
  go_ret
  exact ⟨rfl, hb1⟩
set_option maxHeartbeats 1600000 in
theorem sdrop_new (w : World) (N p : Nat) (v : Value) (A B : List HI) (x : HI) (h : SetAt w N p v (A ++ x :: B)) (ver : Int) (hv : ver < x.v) :
    Calls Try.prog 54 #[.pointer (some ⟨p, 0, none⟩), .int .i64 x.b, .int .u64 ver] w fun e w' => e = .returned (.bool false) ∧ Below w.heap.size w w' := by
  have hf := sfind _ N p v _ h x.b
  obtain ⟨hA, hB, _, _⟩ := srt_parts h.2.2.2.pw
  rw [getL_yes hA rfl, at_yes hA rfl] at hf
  have hl := h.2.2.2.len
  have HH := Lib.hid h
  have hlt : A.length < (A ++ x :: B).length := by simp
  clear h hA hB
  go_enter Try.func54, Try.ntmps54
  go_wp2_with fail
  refine Calls.mono hf ?_
  rintro e w1 ⟨rfl, hb1⟩
  have h1 := HH.out.below hb1
  have HB := Lib.hid hb1
  have hc := obj_cell h1.2.1
  obtain ⟨a, c, rfl, hq1, hq2⟩ := (SR.owns h1.2.2.1).form
  obtain ⟨g, off, rfl, -, c0, c1, c2⟩ := sr_held (SR.owns h1.2.2.1) A.length x (by simp)
  unfold maxLen at hq2
  obtain ⟨n, hn⟩ : ∃ n, n = (A ++ x :: B).length := ⟨_, rfl⟩
  rw [← hn] at hlt hl hq1 hc
  clear hb1 h1 HH hn
  go_wp2_with fail
  go_ret
  exact ⟨rfl, HB.out⟩
set_option maxHeartbeats 1600000 in
theorem sdrop_yes (w : World) (N p : Nat) (v : Value) (A B : List HI) (x : HI) (h : SetAt w N p v (A ++ x :: B)) (ver : Int) (hv : x.v ≤ ver) :
    Calls Try.prog 54 #[.pointer (some ⟨p, 0, none⟩), .int .i64 x.b, .int .u64 ver] w fun e w' => e = .returned (.bool true) ∧ ∃ v', SetAt w' N p v' (A ++ B) ∧ OKept w w' N p v v' := by
  have hf := sfind _ N p v _ h x.b
  obtain ⟨hA, hB, hpA, hpB⟩ := srt_parts h.2.2.2.pw
  rw [getL_yes hA rfl, at_yes hA rfl] at hf
  have hl := h.2.2.2.len
  have hsrt : Srt (A ++ B) := by
    have := h.2.2.2.drop x.b x.v
    rwa [dropL_yes hA hB rfl, if_pos (Int.le_refl _)] at this
  have HH := Lib.hid h
  have hlt : A.length < (A ++ x :: B).length := by simp
  have hA64 : A.length ≤ 64 := by omega
  have hng : ¬ ver < x.v := by omega
  have hNw : N ≤ w.heap.size := Nat.le_trans h.1 (Nat.le_of_lt (lt_heap h.2.1))
  clear h hA hB
  go_enter Try.func54, Try.ntmps54
  go_wp2_with fail
  refine Calls.mono hf ?_
  rintro e w1 ⟨rfl, hb1⟩
  have h1 := HH.out.below hb1
  have HB := Lib.hid hb1
  have H1 := Lib.hid h1
  have hc := obj_cell h1.2.1
  obtain ⟨a, c, rfl, hq1, hq2⟩ := (SR.owns h1.2.2.1).form
  obtain ⟨g, off, rfl, -, c0, c1, c2⟩ := sr_held (SR.owns h1.2.2.1) A.length x (by simp)
  unfold maxLen at hq2
  have hdel := delete_own A B x w1 N _ h1.2.2.1 (by omega)
  obtain ⟨n, hn⟩ : ∃ n, n = (A ++ x :: B).length := ⟨_, rfl⟩
  rw [← hn] at hlt hl hq1 hc hdel
  have HN := Lib.hid hn
  clear hb1 h1 HH hn
  go_wp2_with fail
  refine Calls.mono hdel ?_
  rintro e w2 ⟨v', rfl, hr2, hg2, hnr⟩
  have HP := Lib.hid (set_put H1.out (by rw [← HN.out]; exact hg2) hr2 (by rw [← HN.out]; exact hnr) hsrt)
  have hp2 : w2.heap[p]? = some (.cells #[_] 122) := (hg2.block p (lt_heap H1.out.2.1) (fun e => set_ne H1.out (by rw [← HN.out]; exact e.symm))).trans H1.out.2.1
  have hc2 := obj_cell hp2
  have hf2 := obj_frozen hp2 0
  obtain ⟨a2, cp2, rfl, _, _⟩ := (SR.owns hr2).form
  clear hr2 hg2 hnr hp2
  go_wp2_with fail
  go_ret
  have HQ := HP.out
  rw [List.length_append] at HQ
  exact ⟨rfl, _, HQ.1, (OKept.of_below HB.out hNw).trans HQ.2⟩

theorem sput_out (w : World) (p : Nat) (b : Int) (x : Int) (d : ByteArray) (h : b < 0 ∨ 64 ≤ b) :
    Calls Try.prog 51 #[.pointer (some ⟨p, 0, none⟩), .int .i64 b, .agg (itemA x d)] w fun e w' => e = .returned (.bool false) ∧ Below w.heap.size w w' := by
  unfold itemA
  by_cases h0 : b < 0
  · go_enter Try.func51, Try.ntmps51
    go_wp2_with fail
    go_ret
    exact ⟨rfl, by go_grown⟩
  · have h1 : 64 ≤ b := by omega
    clear h
    go_enter Try.func51, Try.ntmps51
    go_wp2_with fail
    go_ret
    exact ⟨rfl, by go_grown⟩
theorem sput_bad (w : World) (p : Nat) (b : Int) (x : Int) (d : ByteArray) (h0 : 0 ≤ b) (h1 : b < 64) (hm : MayT false x d) :
    Calls Try.prog 51 #[.pointer (some ⟨p, 0, none⟩), .int .i64 b, .agg (itemA x d)] w fun e w' => e = .returned (.bool false) ∧ Below w.heap.size w w' := by
  have hb0 := (Below.refl w.heap.size w).alloc (Nat.le_refl _) (.cells #[.int .u64 x, .string d] 54)
  have cm := hm.1
  clear hm
  unfold itemA at *
  have n0 : ¬ b < 0 := by omega
  have n1 : ¬ 64 ≤ b := by omega
  go_enter Try.func51, Try.ntmps51
  go_wp2_with fail
  refine Calls.mono (cm _) ?_
  rintro e w1 ⟨rfl, hb1⟩
  have HB := Lib.hid (hb0.trans (hb1.mono hb0.size))
  clear hb1 hb0
  go_wp2_with fail
  go_ret
  exact ⟨rfl, HB.out⟩
theorem own_ne_new {w : World} {N n size : Nat} {e : TypeId} {v : Value} {xs : List Value} (h : w.ownsRow N e size v n xs) {k : Nat} (hk : w.heap.size ≤ k) : v.ownBlock ≠ some k := fun e => by have := (h.lt k e).2; omega
theorem set_far5 {w3 w4 : World} {N p : Nat} {v : Value} {l : List HI} {o : Obj} (h : SetAt w3 N p v l) (hg : (w3.drew.alloc o).grownBy w4 v.ownBlock) : w4.heap[p]? = some (.cells #[v] 122) :=
  (hg.block p (by have := lt_heap h.2.1; simp; omega) (fun e => set_ne h e.symm)).trans (Below.heap_alloc w3.drew _ p (lt_heap h.2.1) |>.trans h.2.1)
set_option maxHeartbeats 3200000 in
set_option maxRecDepth 100000 in
theorem sput_no (w : World) (N p : Nat) (v : Value) (A B : List HI) (x : HI) (h : SetAt w N p v (A ++ B)) (hA : ∀ h ∈ A, h.b < x.b) (hB : ∀ h ∈ B, x.b < h.b) (hx : Good x) (hm : MayT true x.v x.d) :
    Calls Try.prog 51 #[.pointer (some ⟨p, 0, none⟩), .int .i64 x.b, .agg (itemA x.v x.d)] w fun e w' => e = .returned (.bool true) ∧ ∃ v', SetAt w' N p v' (A ++ x :: B) ∧ OKept w w' N p v v' := by
  have hb0 := (Below.refl w.heap.size w).alloc (Nat.le_refl _) (.cells #[.int .u64 x.v, .string x.d] 54)
  have hy := heap_alloc_self w (.cells #[.int .u64 x.v, .string x.d] 54)
  have hl := h.2.2.2.len
  have hsrt : Srt (A ++ x :: B) := by
    have := h.2.2.2.lay hx
    rwa [layL_no hA hB] at this
  have hNw : N ≤ w.heap.size := Nat.le_trans h.1 (Nat.le_of_lt (lt_heap h.2.1))
  have n0 : ¬ x.b < 0 := by have := hx.1; omega
  have n1 : ¬ 64 ≤ x.b := by have := hx.2.1; omega
  have cm := hm.1
  have HH := Lib.hid h
  have HF := Lib.hid (show atL (A ++ B) x.b = A.length ∧ (getL (A ++ B) x.b).isSome = false from ⟨at_no hA hB, by rw [getL_no hA hB]; rfl⟩)
  clear h hA hB hm hx
  unfold itemA at *
  go_enter Try.func51, Try.ntmps51
  go_wp2_with fail
  refine Calls.mono (cm _) ?_
  rintro e w1 ⟨rfl, hb1⟩
  have hb2 := hb0.trans (hb1.mono hb0.size)
  have hf := sfind _ N p v _ (HH.out.below hb2) x.b
  rw [HF.out.1, HF.out.2] at hf
  go_wp2_with fail
  refine Calls.mono hf ?_
  rintro e w3 ⟨rfl, hb3⟩
  have hb4 := hb2.trans (hb3.mono hb2.size)
  have h3 := HH.out.below hb4
  have y := below_at hb3 (lt_heap (below_at hb1 (lt_heap hy) hy)) (below_at hb1 (lt_heap hy) hy)
  have hc := obj_cell h3.2.1
  have d0 : w3.cell? ⟨w.heap.size, 0, none⟩ = some (.int .u64 x.v) := by simp [World.cell?, y]
  have d1 : w3.cell? ⟨w.heap.size, 1, none⟩ = some (.string x.d) := by simp [World.cell?, y]
  have H3 := Lib.hid h3
  have HB := Lib.hid hb4
  obtain ⟨a, c, hVf, -, -⟩ := (SR.owns h3.2.2.1).form
  obtain ⟨n, hn⟩ : ∃ n, n = (A ++ B).length := ⟨_, rfl⟩
  rw [← hn] at hVf
  rw [hVf] at hc
  have HV := Lib.hid hVf.symm
  have nc : (w3.alloc (.cells #[.int .i64 x.b, .int .u64 x.v, .string x.d] 131)).cell? ⟨p, 0, none⟩ = some (.slice a n c) := (World.cell?_alloc_lt w3 _ ⟨p, 0, none⟩ (lt_heap h3.2.1)).trans hc
  clear hb0 hb1 hb2 hb3 hb4 h3 y hy hf hVf hn cm HF
  go_upto_region 5 with fail
  go_region_with (go_at_call 77; refine Calls.mono (insert_any A B x (w3.drew.alloc (.cells #[.int .i64 x.b, .int .u64 x.v, .string x.d] 131)) N (.slice a n c) (by rw [HV.out]; exact (H3.out.drew.2.2.1.alloc _)) w3.heap.size (heap_alloc_self w3.drew _) (by rw [HV.out]; exact own_ne_new H3.out.2.2.1 (Nat.le_refl _)) (by omega) (by have := HB.out.size; simp; omega)) ?_; rintro e w4 ⟨v', rfl, hr4, hg4, hnr⟩; have hp4 : w4.heap[p]? = some (.cells #[v] 122) := (set_far5 H3.out (by rw [← HV.out]; exact hg4)); have hc4 := obj_cell hp4; have hf4 := obj_frozen hp4 0; obtain ⟨a2, cp2, rfl, _, _⟩ := (SR.owns hr4).form)
  all_goals
    have HP := Lib.hid (set_put (H3.out.drew.below ((Below.refl _ w3.drew).alloc (Nat.le_refl _) (.cells #[.int .i64 x.b, .int .u64 x.v, .string x.d] 131))) (by rw [← HV.out]; exact hg4) hr4 (by rw [← HV.out]; exact hnr) hsrt)
    clear hr4 hg4 hnr hp4
    go_wp2_with fail
    go_ret
    rw [show (A ++ x :: B).length = A.length + (B.length + 1) by simp] at HP
    exact ⟨rfl, _, HP.out.1, (OKept.of_below HB.out hNw).trans (okept_drew ((OKept.of_below ((Below.refl _ w3.drew).alloc (Nat.le_refl _) _) (by have := HB.out.size; show N ≤ w3.heap.size; omega)).trans HP.out.2))⟩
theorem set_over {w : World} {N p : Nat} {v : Value} {A B : List HI} {y : HI} (h : SetAt w N p v (A ++ y :: B)) (x : HI) (hx : x.b = y.b) (hg : Good x) {g n c : Nat} (hv : v = .slice (some ⟨g, 0, none⟩) n c) :
    SetAt ((w.setCell ⟨g, A.length * 3 + 1, none⟩ (.int .u64 x.v)).setCell ⟨g, A.length * 3 + 2, none⟩ (.string x.d)) N p v (A ++ x :: B) ∧
    OKept w ((w.setCell ⟨g, A.length * 3 + 1, none⟩ (.int .u64 x.v)).setCell ⟨g, A.length * 3 + 2, none⟩ (.string x.d)) N p v v := by
  have hne := set_ne h
  obtain ⟨hN, hp, hr, hs⟩ := h
  have hgp : g ≠ p := fun e => hne (by rw [hv, e]; rfl)
  have hlenA : (hCells A).length = A.length * 3 := hCells_length A
  have hgN := (hr.lt g (by rw [hv]; rfl)).1
  have hlen : (A ++ x :: B).length = (A ++ y :: B).length := by simp
  refine ⟨⟨hN, ?_, ?_, ?_⟩, ?_⟩
  · rw [heap_setCell_other _ _ _ _ (Ne.symm hgp), heap_setCell_other _ _ _ _ (Ne.symm hgp)]
    exact hp
  · rcases hr.2 with ⟨h0, _⟩ | ⟨g', cap, cur, h1, hb, hgc, hnc, hcm, hcs, ht⟩
    · rw [h0] at hv; cases hv
    · rw [hv] at h1
      injection h1 with e1 e2 e3
      injection e1 with e1
      injection e1 with e1
      subst e1 e2 e3
      have k := heap_set_self (heap_set_self hgc (A.length * 3 + 1) (.int .u64 x.v)) (A.length * 3 + 2) (.string x.d)
      rw [hv, hlen]
      refine own_of hb k hnc hcm (by simpa using hcs) (by rw [hCells_length, hlen]) ?_
      obtain ⟨R, hR⟩ : ∃ R, R = cur.toList.drop ((A ++ y :: B).length * 3) := ⟨_, rfl⟩
      have hcl : cur.toList = hCells A ++ (.int .i64 y.b :: .int .u64 y.v :: .string y.d :: hCells B) ++ R := by
        have h2 : hCells (A ++ y :: B) = hCells A ++ (.int .i64 y.b :: .int .u64 y.v :: .string y.d :: hCells B) := by rw [hCells_append]; rfl
        rw [← h2, ← ht, hR, List.take_append_drop]
      simp only [Array.toList_setIfInBounds]
      have h3 : (cur.toList.set (A.length * 3 + 1) (.int .u64 x.v)).set (A.length * 3 + 2) (.string x.d) = hCells (A ++ x :: B) ++ R := by
        rw [hcl, hCells_append]
        simp only [List.append_assoc]
        rw [List.set_append_right _ _ (by omega), List.set_append_right _ _ (by simp [hlenA]), hlenA]
        simp only [show A.length * 3 + 1 - A.length * 3 = 1 by omega, show A.length * 3 + 2 - A.length * 3 = 2 by omega]
        simp [hCells, hx]
      rw [h3]
      exact List.take_left' (by rw [hCells_length, hlen])
  · have := hs.lay hg
    have h4 := srt_parts hs.pw
    refine ⟨?_, fun z hz => ?_⟩
    · exact pw_put (by rw [hx]; exact h4.1) (by rw [hx]; exact h4.2.1) h4.2.2.1 h4.2.2.2
    · rcases List.mem_append.1 hz with h | h
      · exact hs.all z (by simp [h])
      · rcases List.mem_cons.1 h with rfl | h
        · exact hg
        · exact hs.all z (by simp [h])
  · have hb := ((Below.refl N w).setCell (p := ⟨g, A.length * 3 + 1, none⟩) hgN (.int .u64 x.v)).setCell (p := ⟨g, A.length * 3 + 2, none⟩) hgN (.string x.d)
    refine ⟨hb, by simp, fun k hk hkp hu => ?_, .inl rfl⟩
    have hkg : k ≠ g := fun e => hu (by rw [hv, e]; rfl)
    rw [heap_setCell_other _ _ _ _ hkg, heap_setCell_other _ _ _ _ hkg]
set_option maxHeartbeats 3200000 in
set_option maxRecDepth 100000 in
theorem sput_old (w : World) (N p : Nat) (v : Value) (A B : List HI) (x y : HI) (h : SetAt w N p v (A ++ y :: B)) (hx : Good x) (hy : y.b = x.b) (hm : MayT true x.v x.d) (hold : ¬ y.v < x.v) :
    Calls Try.prog 51 #[.pointer (some ⟨p, 0, none⟩), .int .i64 x.b, .agg (itemA x.v x.d)] w fun e w' => e = .returned (.bool false) ∧ Below w.heap.size w w' := by
  have hb0 := (Below.refl w.heap.size w).alloc (Nat.le_refl _) (.cells #[.int .u64 x.v, .string x.d] 54)
  have hz := heap_alloc_self w (.cells #[.int .u64 x.v, .string x.d] 54)
  have hl := h.2.2.2.len
  have n0 : ¬ x.b < 0 := by have := hx.1; omega
  have n1 : ¬ 64 ≤ x.b := by have := hx.2.1; omega
  have cm := hm.1
  have HH := Lib.hid h
  obtain ⟨hA, hB, _, _⟩ := srt_parts h.2.2.2.pw
  have HF := Lib.hid (show atL (A ++ y :: B) x.b = A.length ∧ (getL (A ++ y :: B) x.b).isSome = true from ⟨at_yes (fun h hh => by have := hA h hh; omega) hy, by rw [getL_yes (fun h hh => by have := hA h hh; omega) hy]; rfl⟩)
  have hlt : A.length < (A ++ y :: B).length := by simp
  have cn := fun w => inewer x.v y.v x.d y.d w
  have hdec : decide (y.v < x.v) = false := decide_eq_false hold
  rw [hdec] at cn
  clear h hA hB hm hx hdec
  unfold itemA at *
  go_enter Try.func51, Try.ntmps51
  go_wp2_with fail
  refine Calls.mono (cm _) ?_
  rintro e w1 ⟨rfl, hb1⟩
  have hb2 := hb0.trans (hb1.mono hb0.size)
  have hf := sfind _ N p v _ (HH.out.below hb2) x.b
  rw [HF.out.1, HF.out.2] at hf
  go_wp2_with fail
  refine Calls.mono hf ?_
  rintro e w3 ⟨rfl, hb3⟩
  have hb4 := hb2.trans (hb3.mono hb2.size)
  have h3 := HH.out.below hb4
  have yy := below_at hb3 (lt_heap (below_at hb1 (lt_heap hz) hz)) (below_at hb1 (lt_heap hz) hz)
  have hc := obj_cell h3.2.1
  have d0 : w3.cell? ⟨w.heap.size, 0, none⟩ = some (.int .u64 x.v) := by simp [World.cell?, yy]
  have d1 : w3.cell? ⟨w.heap.size, 1, none⟩ = some (.string x.d) := by simp [World.cell?, yy]
  have HB := Lib.hid hb4
  obtain ⟨a, c, hVf, hq1, hq2⟩ := (SR.owns h3.2.2.1).form
  obtain ⟨n, hn⟩ : ∃ n, n = (A ++ y :: B).length := ⟨_, rfl⟩
  rw [hVf] at hc
  obtain ⟨g, off, rfl, -, c0, c1, c2⟩ := sr_held (by have := SR.owns h3.2.2.1; rw [hVf] at this; exact this) A.length y (by simp)
  rw [← hn] at hlt hl hq1 hc
  unfold maxLen at hq2
  clear hb0 hb1 hb2 hb3 hb4 h3 yy hz hf hVf hn cm HF
  go_upto_region 7 with fail
  go_still_tail 9, (by kernel_rfl)
  change wpList _ _ _ _ _ w3.drew
  go_wp2_with fail
  refine Calls.mono (cn _) ?_
  rintro e w4 ⟨rfl, hb4⟩
  have FB := Lib.hid (HB.out.trans ((below_of_drew hb4).mono HB.out.size))
  go_wp2_with fail
  go_ret
  exact ⟨rfl, FB.out⟩
set_option maxHeartbeats 3200000 in
set_option maxRecDepth 100000 in
theorem sput_new (w : World) (N p : Nat) (v : Value) (A B : List HI) (x y : HI) (h : SetAt w N p v (A ++ y :: B)) (hx : Good x) (hy : y.b = x.b) (hm : MayT true x.v x.d) (hnew : y.v < x.v) :
    Calls Try.prog 51 #[.pointer (some ⟨p, 0, none⟩), .int .i64 x.b, .agg (itemA x.v x.d)] w fun e w' => e = .returned (.bool true) ∧ ∃ v', SetAt w' N p v' (A ++ x :: B) ∧ OKept w w' N p v v' := by
  have hb0 := (Below.refl w.heap.size w).alloc (Nat.le_refl _) (.cells #[.int .u64 x.v, .string x.d] 54)
  have hz := heap_alloc_self w (.cells #[.int .u64 x.v, .string x.d] 54)
  have hl := h.2.2.2.len
  have n0 : ¬ x.b < 0 := by have := hx.1; omega
  have n1 : ¬ 64 ≤ x.b := by have := hx.2.1; omega
  have cm := hm.1
  have hNw : N ≤ w.heap.size := Nat.le_trans h.1 (Nat.le_of_lt (lt_heap h.2.1))
  have HH := Lib.hid h
  have HX := Lib.hid hx
  obtain ⟨hA, hB, _, _⟩ := srt_parts h.2.2.2.pw
  have HF := Lib.hid (show atL (A ++ y :: B) x.b = A.length ∧ (getL (A ++ y :: B) x.b).isSome = true from ⟨at_yes (fun h hh => by have := hA h hh; omega) hy, by rw [getL_yes (fun h hh => by have := hA h hh; omega) hy]; rfl⟩)
  have hlt : A.length < (A ++ y :: B).length := by simp
  have cn := fun w => inewer x.v y.v x.d y.d w
  have hdec : decide (y.v < x.v) = true := decide_eq_true hnew
  rw [hdec] at cn
  clear h hA hB hm hx hdec
  unfold itemA at *
  go_enter Try.func51, Try.ntmps51
  go_wp2_with fail
  refine Calls.mono (cm _) ?_
  rintro e w1 ⟨rfl, hb1⟩
  have hb2 := hb0.trans (hb1.mono hb0.size)
  have hf := sfind _ N p v _ (HH.out.below hb2) x.b
  rw [HF.out.1, HF.out.2] at hf
  go_wp2_with fail
  refine Calls.mono hf ?_
  rintro e w3 ⟨rfl, hb3⟩
  have hb4 := hb2.trans (hb3.mono hb2.size)
  have h3 := HH.out.below hb4
  have yy := below_at hb3 (lt_heap (below_at hb1 (lt_heap hz) hz)) (below_at hb1 (lt_heap hz) hz)
  have hc := obj_cell h3.2.1
  have d0 : w3.cell? ⟨w.heap.size, 0, none⟩ = some (.int .u64 x.v) := by simp [World.cell?, yy]
  have d1 : w3.cell? ⟨w.heap.size, 1, none⟩ = some (.string x.d) := by simp [World.cell?, yy]
  have HB := Lib.hid hb4
  have HYY := Lib.hid yy
  have H3 := Lib.hid h3
  obtain ⟨a, c, hVf, hq1, hq2⟩ := (SR.owns h3.2.2.1).form
  obtain ⟨n, hn⟩ : ∃ n, n = (A ++ y :: B).length := ⟨_, rfl⟩
  rw [hVf] at hc
  obtain ⟨g, off, rfl, -, c0, c1, c2⟩ := sr_held (by have := SR.owns h3.2.2.1; rw [hVf] at this; exact this) A.length y (by simp)
  obtain rfl : off = 0 := by
    rcases h3.2.2.1.2 with ⟨e, _⟩ | ⟨g', cap, cur, e, _⟩
    · rw [hVf] at e; cases e
    · rw [hVf] at e; injection e with e _ _; injection e with e; injection e
  have HW := Lib.hid hVf
  rw [← hn] at hlt hl hq1 hc hVf
  rw [Nat.zero_add] at c0 c1 c2
  unfold maxLen at hq2
  have HV := Lib.hid hVf
  clear hb0 hb1 hb2 hb3 hb4 h3 yy hz hf hVf hn cm HF
  go_upto_region 7 with fail
  go_still_tail 9, (by kernel_rfl)
  change wpList _ _ _ _ _ w3.drew
  go_wp2_with fail
  refine Calls.mono (cn _) ?_
  rintro e w4 ⟨rfl, hb4⟩
  have hb5 := below_of_drew hb4
  have h4 := H3.out.below hb5
  have F1 := Lib.hid (set_over h4 x hy.symm HX.out HV.out)
  have FB := Lib.hid (HB.out.trans (hb5.mono HB.out.size))
  have yy := below_at hb5 (lt_heap HYY.out) HYY.out
  have hc := obj_cell h4.2.1
  rw [HV.out] at hc
  have e0 : w4.cell? ⟨w.heap.size, 0, none⟩ = some (.int .u64 x.v) := by simp [World.cell?, yy]
  have e1 : w4.cell? ⟨w.heap.size, 1, none⟩ = some (.string x.d) := by simp [World.cell?, yy]
  have hrow := h4.2.2.1
  have hk : ∃ cur : Array Value, w4.heap[g]? = some (.cells cur 131 (0, 0)) := by
    rcases hrow.2 with ⟨e, _⟩ | ⟨g', cap, cur, e, _, hgc, _⟩
    · rw [HV.out] at e; cases e
    · rw [HV.out] at e; injection e with e _ _; injection e with e; injection e with e; subst e; exact ⟨cur, hgc⟩
  obtain ⟨cur, hgc⟩ := hk
  have q1 : (w4.cell? ⟨g, A.length * 3 + 1, none⟩) = some (.int .u64 y.v) := by
    obtain ⟨b', o', e, _, _, k1, k2⟩ := sr_held (by have := SR.owns hrow; rw [HW.out] at this; exact this) A.length y (by simp)
    cases e; simpa using k1
  have q2 : (w4.cell? ⟨g, A.length * 3 + 2, none⟩) = some (.string y.d) := by
    obtain ⟨b', o', e, _, _, k1, k2⟩ := sr_held (by have := SR.owns hrow; rw [HW.out] at this; exact this) A.length y (by simp)
    cases e; simpa using k2
  have f1 : w4.frozen? ⟨g, A.length * 3 + 1, none⟩ = false := by simp [World.frozen?, hgc]
  have f2 : w4.frozen? ⟨g, A.length * 3 + 2, none⟩ = false := by simp [World.frozen?, hgc]
  clear hb4 hb5 h4 yy hrow hgc c0 c1 c2 cn d0 d1
  go_upto_region 9 with fail
  go_still_tail 8, (by kernel_rfl)
  change wpList _ _ _ _ _ w4.drew
  go_wp2_with fail
  go_ret
  exact ⟨rfl, _, F1.out.1, okept_drew2 ((OKept.of_below FB.out hNw).trans F1.out.2)⟩
end Go.Proofs.Ytfgmeeponipjeaa
/-
  ItemPuts (layer 8).
-/

namespace Go.Proofs.Ytfgmeeponipjeaa
open Go.RowKit
set_option linter.unusedVariables false
set_option linter.unusedSimpArgs false

theorem fits_item {w : World} {c : Array Value} (h : Fits w (.two (.int .u64) (.two .str .unit)) c.toList) : ∃ v s, c = itemA v s ∧ (Lit.int .u64 v).wf = true ∧ s.size ≤ maxLen := by
  obtain ⟨x0, y0, e0, ⟨v, rfl, hv⟩, x1, y1, rfl, ⟨s, rfl, hs⟩, rfl⟩ := h
  refine ⟨v, s, ?_, hv, hs⟩
  apply Array.toList_inj.1
  rw [e0]; rfl
theorem putN_some (n : Nat) : putN n ≠ [] := by intro h; simp [putN] at h
end Go.Proofs.Ytfgmeeponipjeaa
