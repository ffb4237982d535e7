/-
  Several texts, laid together.
-/
import Derived.Test.YtgnnijpfkgmomaaGreatDoorMh6
import Derived.Deep.RegionLaw
import Derived.BigRegion
import Derived.Test.YtgnnijpfkgmomaaGreatDoorMask
/-
  disk.Write.
-/



namespace Go.Proofs.YtgnnijpfkgmomaaGreatDoor
open Go.RowKit
set_option linter.unusedVariables false
set_option linter.unusedSimpArgs false

section
variable {P : Program}
theorem run_app2 {t ty e : TypeId} {i : TypeInfo} {z : Value} {size bytes : Nat} (ht : P.underlying t = some (.slice e)) (hi : P.info? e = some i) (hz : i.zero = some z) (hsize : i.size = size) (hby : i.bytes = bytes)
    (hzs : z.cells.size = size) (hsz : 0 < size) (w : World) (base : Nat) (v : Value) (n : Nat) (xs : List Value) (hown : w.ownsRow base e size v n xs) (u : Value) (m : Nat) (news : List Value) (hr : SR w u size m news) (hm0 : 0 < m)
    (h1 : ∀ y ∈ news, y.oneCell' = true) (h63 : n + m ≤ maxLen) (hbytes : (n + m) * bytes ≤ 140737488355328) (hbase : base ≤ w.heap.size) :
    ∃ v' w', (Builtin.append_ #[t, t] ty #[v, u]).run P w = .ok v' w' ∧ w'.ownsRow base e size v' (n + m) (xs ++ news) ∧ w.grownBy w' v.ownBlock ∧ (v'.ownBlock = v.ownBlock ∨ v'.ownBlock = some w.heap.size) := by
  obtain ⟨a, cap, rfl, hmc, hcm, hl, hc⟩ := hr
  have hcells : ∀ ad, a = some ad → ∀ (j : Nat) y, news[j]? = some y → w.cell? (ad.add j) = some y := by
    intro ad e1 j y hj
    rcases hc with h0 | ⟨b, off, e2, _, hcell⟩
    · omega
    · rw [e1] at e2
      cases e2
      rw [add_off]
      exact hcell j y hj
  rcases hc with h0 | ⟨b, off, rfl, _, hcell⟩
  · omega
  · obtain ⟨v', w', hrun, h2, h3, _, h5⟩ := run_append_own_at (P := P) w base t ty e i z size bytes ht hi hz hsize hby hzs hsz v n xs hown ⟨b, off, none⟩ m cap news hl (hcells _ rfl) h1 h63 hbytes hbase
    exact ⟨v', w', hrun, h2, h3, h5⟩
theorem step_app2 {t e : TypeId} {i : TypeInfo} {z : Value} {size bytes : Nat} (ht : P.underlying t = some (.slice e)) (hi : P.info? e = some i) (hz : i.zero = some z) (hsize : i.size = size) (hby : i.bytes = bytes)
    (hzs : z.cells.size = size) (hsz : 0 < size) {ops : Array Oper} {o : Oper} {a : Act} {K : Act → World → Prop} {Q : Exit → Act → World → Prop} {E : Prop} {w : World} (hgd : o.guard = none) (s x : Operand)
    (ho : o.op = .call { callee := .builtin .append, args := #[s, x], argTypes := #[t, t] }) (base : Nat) (v : Value) (n : Nat) (xs : List Value) (hs : a.eval s = v) (hown : w.ownsRow base e size v n xs)
    (u : Value) (m : Nat) (news : List Value) (hx : a.eval x = u) (hr : SR w u size m news) (hm0 : 0 < m)
    (h1 : ∀ y ∈ news, y.oneCell' = true) (h63 : n + m ≤ maxLen) (hbytes : (n + m) * bytes ≤ 140737488355328) (hbase : base ≤ w.heap.size)
    (h : ∀ v' w', w'.ownsRow base e size v' (n + m) (xs ++ news) → w.grownBy w' v.ownBlock → (v'.ownBlock = v.ownBlock ∨ v'.ownBlock = some w.heap.size) → K (a.put o.dst v') w') :
    if Region.wanted o (yielded ops a.tmps) = true then Oper.wp P o a w K Q else E := by
  have hw : Region.wanted o (yielded ops a.tmps) = true := by simp [Region.wanted, hgd]
  rw [if_pos hw]
  obtain ⟨v', w', hrun, h2, h3, h4⟩ := run_app2 (P := P) (ty := o.type) ht hi hz hsize hby hzs hsz w base v n xs hown u m news hr hm0 h1 h63 hbytes hbase
  unfold Oper.wp execOp
  simp only [ho, resolve, invoke, builtin, Sem.run_bind, Sem.run_pure, Result.andThen_ok, List.map_toArray, List.map_cons, List.map_nil, hs, hx, hrun]
  exact h v' w' h2 h3 h4
end
/-- a writing is laid behind the others -/
theorem dsk_put {w w2 : World} {N p : Nat} {sv lv v2 : Value} {S : List ByteArray} {L : List (Nat × ByteArray)} {o : Obj} {x : Nat × ByteArray} (h : Dsk w N p sv lv S L) (hx : x.1 < S.length ∧ x.2.size = 64)
    (own2 : w2.ownsRow N 117 2 v2 (L.length + 1) (wCells L ++ [.int .i64 x.1, .string x.2])) (hg : (w.alloc o).grownBy w2 lv.ownBlock) (hn : v2.ownBlock = lv.ownBlock ∨ v2.ownBlock = some (w.alloc o).heap.size) :
    Dsk (w2.setCell ⟨p, 1, none⟩ v2) N p sv v2 S (L ++ [x]) ∧ DKept w (w2.setCell ⟨p, 1, none⟩ v2) N p sv lv v2 := by
  have hlo := row_other h.later h.obj (by decide)
  have hso := row_other h.sure h.obj (by decide)
  have hsl : sv.ownBlock = none ∨ sv.ownBlock ≠ lv.ownBlock := by
    cases hs : sv.ownBlock with
    | none => exact .inl rfl
    | some k => exact .inr fun e => rows_apart h.sure h.later (by decide) k hs e.symm
  have hg0 : w.grownBy w2 lv.ownBlock := ⟨hg.os, hg.tape, hg.output, Nat.le_trans (by simp) hg.size, fun k hk hne => (hg.block k (by simp; omega) hne).trans (Below.heap_alloc _ _ _ hk)⟩
  have hobj2 : w2.heap[p]? = some (.cells #[sv, lv] 58) := (hg0.block p h.lt (fun e => hlo e.symm)).trans h.obj
  have hs2 := h.sure.kept hg0 hsl
  have hgs := grownBy_setCell' w2
  have v2o := row_other own2 hobj2 (by decide)
  have hset : ∀ k, k ≠ p → (w2.setCell ⟨p, 1, none⟩ v2).heap[k]? = w2.heap[k]? := fun k hk => heap_setCell_other _ _ _ _ hk
  have hgp : w2.grownBy (w2.setCell ⟨p, 1, none⟩ v2) (some p) := ⟨rfl, rfl, rfl, by simp, fun k _ hk => hset k (fun e => hk (by rw [e]))⟩
  refine ⟨⟨h.hp, ?_, hs2.kept hgp (.inr hso), ?_, h.sizes, ?_, h.most⟩, ?_, ?_, ?_⟩
  · rw [heap_setCell_same _ _ _ _ _ _ hobj2]
    rfl
  · have := own2.kept hgp (.inr v2o)
    rw [List.length_append, wCells_append]
    exact this
  · intro y hy
    rcases List.mem_append.1 hy with hy | hy
    · exact h.ats y hy
    · simp at hy; subst hy; exact hx
  · have hb : Below N w w2 := (Below.refl N w).grown hg0 h.le (fun k e => (h.later.lt k e).1)
    exact hb.setCell (p := ⟨p, 1, none⟩) h.hp _
  · intro k hk hkp hks hkl
    exact (hset k hkp).trans (hg0.block k hk hkl)
  · rcases hn with hn | hn
    · exact .inl hn
    · right
      intro k e
      rw [hn] at e
      cases e
      simp
theorem Dsk.drew {w : World} {N p : Nat} {sv lv : Value} {S : List ByteArray} {L : List (Nat × ByteArray)} (h : Dsk w N p sv lv S L) : Dsk w.drew N p sv lv S L := ⟨h.hp, h.obj, h.sure, h.later, h.sizes, h.ats, h.most⟩

theorem dwrite_none (n : Int) (s : ByteArray) (w : World) (N p : Nat) (sv lv : Value) (S : List ByteArray) (L : List (Nat × ByteArray)) (h : Dsk w N p sv lv S L) (hn : ¬ (0 ≤ n ∧ n < S.length) ∨ 64 < s.size) :
    Calls Tryz.prog 90 #[.pointer (some ⟨p, 0, none⟩), .int .i64 n, .string s] w fun e w' => e = .returned (.int .i64 1) ∧ w = w' := by
  have c := dhas n w N p sv lv S L h
  by_cases h1 : 0 ≤ n ∧ n < S.length
  · have h2 : 64 < s.size := hn.resolve_left (fun h => h h1)
    simp only [h1, and_self, decide_true] at c
    go_enter Tryz.func90, Tryz.ntmps90
    go_wp2_with fail
    refine Calls.mono c ?_
    rintro e w2 ⟨rfl, rfl⟩
    go_wp2_with fail
    go_ret
    exact ⟨rfl, rfl⟩
  · simp only [h1, decide_false] at c
    go_enter Tryz.func90, Tryz.ntmps90
    go_wp2_with fail
    refine Calls.mono c ?_
    rintro e w2 ⟨rfl, rfl⟩
    go_wp2_with fail
    go_ret
    exact ⟨rfl, rfl⟩

theorem owns_form2 {w : World} {base size n : Nat} {e : TypeId} {v : Value} {xs : List Value} (h : w.ownsRow base e size v n xs) : ∃ a c, v = .slice a n c := by
  rcases h.2 with ⟨rfl, rfl⟩ | ⟨g, cap, _, rfl, _⟩
  · exact ⟨none, 0, rfl⟩
  · exact ⟨_, cap, rfl⟩
theorem put_obj {w w2 : World} {N p : Nat} {sv lv : Value} {S : List ByteArray} {L : List (Nat × ByteArray)} {o : Obj} (h : Dsk w N p sv lv S L) (hg : (w.alloc o).grownBy w2 lv.ownBlock) : w2.heap[p]? = some (.cells #[sv, lv] 58) :=
  (hg.block p (by have := h.lt; simp; omega) (fun e => row_other h.later h.obj (by decide) e.symm)).trans ((Below.heap_alloc _ _ _ h.lt).trans h.obj)
theorem put_cell {w w2 : World} {N p : Nat} {sv lv : Value} {S : List ByteArray} {L : List (Nat × ByteArray)} {o : Obj} (h : Dsk w N p sv lv S L) (hg : (w.alloc o).grownBy w2 lv.ownBlock) : w2.cell? ⟨p, 1, none⟩ = some lv := by simp [World.cell?, put_obj h hg]
theorem put_frozen {w w2 : World} {N p : Nat} {sv lv : Value} {S : List ByteArray} {L : List (Nat × ByteArray)} {o : Obj} (h : Dsk w N p sv lv S L) (hg : (w.alloc o).grownBy w2 lv.ownBlock) : w2.frozen? ⟨p, 1, none⟩ = false := by simp [World.frozen?, put_obj h hg]
set_option maxHeartbeats 1600000 in
set_option maxRecDepth 100000 in
theorem dwrite (n : Nat) (s : ByteArray) (w : World) (N p : Nat) (sv lv : Value) (S : List ByteArray) (L : List (Nat × ByteArray)) (h : Dsk w N p sv lv S L) (hn : n < S.length) (hs : s.size ≤ 64) (hL : L.length ≤ 1000000) :
    Calls Tryz.prog 90 #[.pointer (some ⟨p, 0, none⟩), .int .i64 n, .string s] w fun e w' => e = .returned (.int .i64 0) ∧ ∃ v2, Dsk w' N p sv v2 S (L ++ [(n, s ++ zeroL (64 - s.size))]) ∧ DKept w w' N p sv lv v2 := by
  obtain ⟨i0, hi, hz0, hz1, hz2⟩ := info_parts (show (Tryz.prog.info? 117).map (fun i => (i.zero, i.size, i.bytes)) = some (some (.agg #[.int .i64 0, .string ⟨#[]⟩]), 2, 24) by kernel_rfl)
  have c := dhas n w N p sv lv S L h
  have hn2 : 0 ≤ (n : Int) ∧ (n : Int) < S.length := ⟨by omega, by omega⟩
  simp only [hn2, and_self, decide_true] at c
  have cn : ∀ w', Calls Tryz.prog 48 #[.int .i64 (64 - (s.size : Int))] w' fun e w'' => e = .returned (.string (zeroL (64 - s.size))) ∧ Below w'.heap.size w' w'' := by
    intro w'
    rw [show (64 - (s.size : Int)) = ((64 - s.size : Nat) : Int) by omega]
    exact dnoughts _ w' (by omega)
  have hsz : (s ++ zeroL (64 - s.size)).size = 64 := by rw [ByteArray.size_append, zeroL_size]; omega
  obtain ⟨Z, hZ⟩ : ∃ Z, zeroL (64 - s.size) = Z := ⟨_, rfl⟩
  rw [hZ] at hsz
  rw [hZ]
  simp only [hZ] at cn
  have hZs : s.size + Z.size ≤ 64 := by rw [ByteArray.size_append] at hsz; omega
  have hZ2 : Z.size ≤ 64 := by omega
  have hnb : ¬ 9223372036854775807 < s.size + Z.size := by omega
  clear hZs
  have HD := Lib.hid h
  have hobj := h.cell1
  have hfr := h.frozen 1
  obtain ⟨a, cap, rfl, _, _⟩ := h.lform
  have HS := Lib.hid hsz
  clear hsz hZ h
  go_enter Tryz.func90, Tryz.ntmps90
  go_wp2_with fail
  refine Calls.mono c ?_
  rintro e w2 ⟨rfl, rfl⟩
  go_wp2_with fail
  go_region_law (first | (refine step_app2 Tryz.underlying56 hi hz0 hz1 hz2 rfl (by decide) rfl (.tmp 20) (.tmp 29) rfl N _ L.length (wCells L) rfl (DZ.out.later.alloc _) _ 1 [.int .i64 n, .string (s ++ Z)] rfl (SR.lit _ _ #[.int .i64 n, .string (s ++ Z)] 2 1 (by decide) rfl) (by decide) (fun y hy => by simp at hy; rcases hy with rfl | rfl <;> rfl) (by unfold maxLen; omega) (by omega) (by have := DZ.out.le; simp; omega) ?_; intro v2 w3 own2 hg2 hn2; obtain ⟨a2, c2, rfl⟩ := owns_form2 own2; have y2 := put_cell DZ.out hg2; have f2 := put_frozen DZ.out hg2) | (go_wp2_with (go_at_call 48; refine Calls.mono (cn _) ?_; rintro e wz ⟨rfl, hz⟩; have DZ := Lib.hid (HD.out.drew.below hz); have hzc := DZ.out.cell1; have hza := (World.cell?_alloc_lt wz (.cells #[.int .i64 n, .string (s ++ Z)] 117) ⟨p, 1, none⟩ DZ.out.lt).trans hzc)))
  all_goals
    have F := Lib.hid (dsk_put (x := (n, s ++ Z)) DZ.out ⟨hn, HS.out⟩ own2 hg2 hn2)
    have G := Lib.hid (DKept.trans (DKept.of_below (sv := sv) (lv := Value.slice a L.length cap) (p := p) (w := w) (w' := wz) HD.out.le (below_of_drew (show Below w.heap.size w.drew wz from hz))) F.out.2)
    clear own2 hg2 hn2 y2 f2 hz hza hzc
    go_wp2_with fail
    go_ret
    exact ⟨rfl, _, F.out.1, G.out⟩
end Go.Proofs.YtgnnijpfkgmomaaGreatDoor
/-
  disk.end, Sync, Crash: what becomes of the writings that are not sure.
-/

namespace Go.Proofs.YtgnnijpfkgmomaaGreatDoor
open Go.RowKit
set_option linter.unusedVariables false
set_option linter.unusedSimpArgs false

def frontS (a : ByteArray) : ByteArray := a.extract 0 32
def backS (a : ByteArray) : ByteArray := a.extract 32 a.size
/-- what a writing's fate leaves -/
def fateS (f : Int) (S : List ByteArray) (x : Nat × ByteArray) : List ByteArray :=
  if f = 1 then S.set x.1 x.2 else if f = 2 then S.set x.1 (frontS x.2 ++ backS (S.getD x.1 ⟨#[]⟩)) else if f = 3 then S.set x.1 (frontS (S.getD x.1 ⟨#[]⟩) ++ backS x.2) else S
def endS (fate : Nat → Int) : Nat → List ByteArray → List (Nat × ByteArray) → List ByteArray
  | _, S, [] => S
  | k, S, x :: L => endS fate (k + 1) (fateS (fate k) S x) L
theorem fateS_length (f : Int) (S : List ByteArray) (x : Nat × ByteArray) : (fateS f S x).length = S.length := by
  unfold fateS
  repeat' split
  all_goals simp
theorem endS_length (fate : Nat → Int) (k : Nat) (S : List ByteArray) (L : List (Nat × ByteArray)) : (endS fate k S L).length = S.length := by
  induction L generalizing k S with
  | nil => rfl
  | cons x L ih => simp [endS, ih, fateS_length]
theorem front_size {a : ByteArray} (h : a.size = 64) : (frontS a).size = 32 := by simp [frontS, ByteArray.size_extract, h]
theorem back_size {a : ByteArray} (h : a.size = 64) : (backS a).size = 32 := by simp [backS, ByteArray.size_extract, h]
theorem fateS_sizes (f : Int) (S : List ByteArray) (x : Nat × ByteArray) (hS : ∀ s ∈ S, s.size = 64) (hx : x.1 < S.length ∧ x.2.size = 64) : ∀ s ∈ fateS f S x, s.size = 64 := by
  have hw : (S.getD x.1 ⟨#[]⟩).size = 64 := by
    rw [List.getD_eq_getElem?_getD, List.getElem?_eq_getElem hx.1]
    exact hS _ (List.getElem_mem _)
  have hset : ∀ v : ByteArray, v.size = 64 → ∀ s ∈ S.set x.1 v, s.size = 64 := by
    intro v hv s hs
    rcases List.mem_or_eq_of_mem_set hs with h | h
    · exact hS s h
    · rw [h]; exact hv
  intro s
  unfold fateS
  repeat' split
  · exact hset _ hx.2 s
  · exact hset _ (by rw [ByteArray.size_append, front_size hx.2, back_size hw]) s
  · exact hset _ (by rw [ByteArray.size_append, front_size hw, back_size hx.2]) s
  · exact hS s
/-- a sector that is made sure -/
theorem dsk_set {w : World} {N p g cap n : Nat} {lv : Value} {S : List ByteArray} {L : List (Nat × ByteArray)} (h : Dsk w N p (.slice (some ⟨g, 0, none⟩) n cap) lv S L) (k : Nat) (v : ByteArray) (hv : ∀ s ∈ S.set k v, s.size = 64) :
    Dsk (w.setCell ⟨g, k, none⟩ (.string v)) N p (.slice (some ⟨g, 0, none⟩) n cap) lv (S.set k v) L ∧ DKept w (w.setCell ⟨g, k, none⟩ (.string v)) N p (.slice (some ⟨g, 0, none⟩) n cap) lv lv := by
  have hn : n = S.length := by
    rcases h.sure.2 with ⟨h', _⟩ | ⟨g', cap', cur, h', _⟩
    · simp at h'
    · injection h'
  subst hn
  obtain ⟨h1, h2⟩ := h.sure.stored k (.string v)
  have hpg : p ≠ g := fun e => row_other h.sure h.obj (by decide) (by rw [e]; rfl)
  have hl : lv.ownBlock = none ∨ lv.ownBlock ≠ some g := by
    cases hl : lv.ownBlock with
    | none => exact .inl rfl
    | some j => exact .inr fun e => rows_apart h.later h.sure (by decide) j hl (by cases e; rfl)
  refine ⟨⟨h.hp, (h2.block p h.lt (fun e => hpg (by cases e; rfl))).trans h.obj, ?_, h.later.kept h2 hl, hv, by simpa using h.ats, by simpa using h.most⟩, ?_, ?_, .inl rfl⟩
  · rw [sCells_set] at h1
    simpa using h1
  · exact (Below.refl N w).grown h2 h.le (fun j e => by cases e; exact (h.sure.lt g rfl).1)
  · intro j hj hp hs hl'
    exact h2.block j hj hs
/-- no writing is left -/
theorem dsk_nil {w : World} {N p : Nat} {sv lv : Value} {S : List ByteArray} {L : List (Nat × ByteArray)} (h : Dsk w N p sv lv S L) : Dsk (w.setCell ⟨p, 1, none⟩ (.slice none 0 0)) N p sv (.slice none 0 0) S [] ∧ DKept w (w.setCell ⟨p, 1, none⟩ (.slice none 0 0)) N p sv lv (.slice none 0 0) := by
  have hso := row_other h.sure h.obj (by decide)
  have hgp : w.grownBy (w.setCell ⟨p, 1, none⟩ (.slice none 0 0)) (some p) := ⟨rfl, rfl, rfl, by simp, fun k _ hk => heap_setCell_other _ _ _ _ (fun e => hk (by rw [e]))⟩
  refine ⟨⟨h.hp, ?_, h.sure.kept hgp (.inr hso), World.ownsRow_nil _ _ _ _, h.sizes, by simp, h.most⟩, ?_, ?_, .inr (fun k e => by cases e)⟩
  · rw [heap_setCell_same _ _ _ _ _ _ h.obj]
    rfl
  · exact (Below.refl N w).setCell (p := ⟨p, 1, none⟩) h.hp _
  · intro k hk hp _ _
    exact heap_setCell_other _ _ _ _ hp

/-- what the loop of end keeps -/
structure ERel (fate : Nat → Int) (w wr : World) (N p j : Nat) (sv lv : Value) (S0 S : List ByteArray) (L : List (Nat × ByteArray)) : Prop where
  dsk : Dsk wr N p sv lv S L
  kept : DKept w wr N p sv lv lv
  same : endS fate j S (L.drop j) = endS fate 0 S0 L
  len : S.length = S0.length
theorem ERel.below {fate : Nat → Int} {w wr wz : World} {N p j : Nat} {sv lv : Value} {S0 S : List ByteArray} {L : List (Nat × ByteArray)} (h : ERel fate w wr N p j sv lv S0 S L) (hb : Below wr.heap.size wr wz) : ERel fate w wz N p j sv lv S0 S L :=
  ⟨h.dsk.below hb, h.kept.trans (DKept.of_below h.dsk.le hb), h.same, h.len⟩
theorem drop_at {α : Type} (L : List α) (j : Nat) (x : α) (h : L[j]? = some x) : L.drop j = x :: L.drop (j + 1) := by
  obtain ⟨hl, rfl⟩ := List.getElem?_eq_some_iff.1 h
  exact List.drop_eq_getElem_cons hl
theorem ERel.step {fate : Nat → Int} {w wr w' : World} {N p j : Nat} {sv lv : Value} {S0 S : List ByteArray} {L : List (Nat × ByteArray)} {x : Nat × ByteArray} (h : ERel fate w wr N p j sv lv S0 S L) (hx : L[j]? = some x) (hd : Dsk w' N p sv lv (fateS (fate j) S x) L) (hk : DKept wr w' N p sv lv lv) :
    ERel fate w w' N p (j + 1) sv lv S0 (fateS (fate j) S x) L := by
  refine ⟨hd, h.kept.trans hk, ?_, (fateS_length _ _ _).trans h.len⟩
  have := h.same
  rw [drop_at L j x hx] at this
  exact this
/-- a writing in a block of its own -/
theorem block2 (w : World) (x y : Value) (t : TypeId) : (w.alloc (.cells #[x, y] t)).cell? ⟨w.heap.size, 0, none⟩ = some x ∧ (w.alloc (.cells #[x, y] t)).cell? ⟨w.heap.size, 1, none⟩ = some y := by
  exact ⟨by rw [World.cell?_alloc_at _ _ _ _ rfl]; rfl, by rw [World.cell?_alloc_at _ _ _ _ rfl]; rfl⟩

/-- a writing's fate: the sector is stored -/
theorem ERel.stored {fate : Nat → Int} {w wz : World} {N p j gs n caps xa : Nat} {lv : Value} {S0 S : List ByteArray} {L : List (Nat × ByteArray)} {xd v : ByteArray} (h : ERel fate w wz N p j (.slice (some ⟨gs, 0, none⟩) n caps) lv S0 S L) (hx : L[j]? = some (xa, xd))
    (hv : fateS (fate j) S (xa, xd) = S.set xa v) : ERel fate w (wz.setCell ⟨gs, xa, none⟩ (.string v)).drew N p (j + 1) (.slice (some ⟨gs, 0, none⟩) n caps) lv S0 (fateS (fate j) S (xa, xd)) L ∧ DKept wz (wz.setCell ⟨gs, xa, none⟩ (.string v)).drew N p (.slice (some ⟨gs, 0, none⟩) n caps) lv lv := by
  have hats := h.dsk.ats _ (List.mem_of_getElem? hx)
  have hsz := fateS_sizes (fate j) S (xa, xd) h.dsk.sizes hats
  obtain ⟨a, b⟩ := dsk_set h.dsk xa v (by rw [← hv]; exact hsz)
  have b2 : DKept wz (wz.setCell ⟨gs, xa, none⟩ (.string v)).drew N p (.slice (some ⟨gs, 0, none⟩) n caps) lv lv := ⟨below_drew' b.below, b.block, b.new⟩
  exact ⟨h.step hx (by rw [hv]; exact a.drew) b2, b2⟩

set_option maxHeartbeats 4000000 in
set_option maxRecDepth 400000 in
theorem dend (g : Nat) (lb : Array Value) (fate : Nat → Int) (R : World → Prop) (w : World) (N p : Nat) (sv lv : Value) (S : List ByteArray) (L : List (Nat × ByteArray)) (h : Dsk w N p sv lv S L) (hL : L.length ≤ 1000000)
    (eg : ∀ args w, (callFunc g args).run Tryz.prog w = .ok (.enter g args) w) (hR : R w) (hRk : ∀ {w1 w2 : World}, R w1 → DKept w w1 N p sv lv lv → DKept w1 w2 N p sv lv lv → R w2)
    (hf : ∀ (j : Nat) (w' : World), j < L.length → R w' → Calls Tryz.prog g (#[.int .i64 j] ++ lb) w' fun e w'' => e = .returned (.int .i64 (fate j)) ∧ Below w'.heap.size w' w'') :
    Calls Tryz.prog 41 #[.pointer (some ⟨p, 0, none⟩), .func (.func g) #[] lb] w fun e w' => e = .returned (.tuple #[]) ∧ Dsk w' N p sv (.slice none 0 0) (endS fate 0 S L) [] ∧ DKept w w' N p sv lv (.slice none 0 0) := by
  have hc0 := h.cell0
  have hc1 := h.cell1
  obtain ⟨a, cap, rfl, hlc, hcm, hcells⟩ := h.lform
  unfold maxLen at hcm
  clear hcells
  have HF := Lib.hid hf
  have HD := Lib.hid h
  clear hf h
  go_enter Tryz.func41, Tryz.ntmps41
  go_wp2_with fail
  go_loopw [14] (fun i wr => ∃ (j : Nat) (S' : List ByteArray), j ≤ L.length ∧ i = .int .i64 j ∧ R wr ∧ ERel fate w wr N p j sv (.slice a L.length cap) S S' L) (fun i _ => L.length - (intOf i).toNat)
  case atStart => exact ⟨0, S, Nat.zero_le _, rfl, hR, HD.out, DKept.refl _ _ _ _ _, rfl, rfl⟩
  case round =>
    obtain ⟨j, S', hj, rfl, hRr, hrel⟩ := hrel
    have hr1 := hrel.dsk.cell1
    have hr0 := hrel.dsk.cell0
    by_cases hlt : j < L.length
    · obtain ⟨x, hx⟩ : ∃ x, L[j]? = some x := ⟨_, List.getElem?_eq_getElem hlt⟩
      obtain ⟨a', cap', he, _, _, hcells⟩ := hrel.dsk.lform
      obtain ⟨g', hg', e0, e1⟩ := hcells j x hx
      simp only [Value.slice.injEq] at he
      obtain ⟨z1, _, z3⟩ := he
      subst z1 z3 hg'
      clear hcells
      have HR := Lib.hid hrel
      have HX := Lib.hid hx
      clear hrel hx
      have hats := HR.out.dsk.ats x (List.mem_of_getElem? HX.out)
      have hS0 : 0 < S'.length := by omega
      obtain ⟨gs, caps, rfl, hsle, hscm, hscells⟩ := HR.out.dsk.sform hS0
      unfold maxLen at hscm
      obtain ⟨V, hV⟩ : ∃ V, S'[x.1]? = some V := ⟨_, List.getElem?_eq_getElem hats.1⟩
      have hvc := hscells x.1 V hV
      have hVs : V.size = 64 := HR.out.dsk.sizes V (List.mem_of_getElem? hV)
      have hgd : S'.getD x.1 ⟨#[]⟩ = V := by rw [List.getD_eq_getElem?_getD, hV]; rfl
      have HG := Lib.hid hgd
      clear hscells hV hgd
      obtain ⟨xa, xd⟩ := x
      simp only at *
      have hxs := hats.2
      have hxa : (xa : Int) < S'.length := by omega
      have HA := Lib.hid hats
      clear hats
      go_upto_region 4 with fail
      obtain ⟨b0, b1⟩ := block2 wr (.int .i64 xa) (.string xd) 117
      have hr0' := (World.cell?_alloc_lt wr (.cells #[.int .i64 xa, .string xd] 117) ⟨p, 0, none⟩ HR.out.dsk.lt).trans hr0
      have hvc' := (World.cell?_alloc_lt wr (.cells #[.int .i64 xa, .string xd] 117) ⟨gs, xa, none⟩ (HR.out.dsk.sure.lt gs rfl).2).trans hvc
      have HR1 := Lib.hid (HR.out.below ((Below.refl _ _).alloc (Nat.le_refl _) (.cells #[.int .i64 xa, .string xd] 117)))
      have hRr1 := hRk hRr HR.out.kept (DKept.of_below HR.out.dsk.le ((Below.refl _ _).alloc (Nat.le_refl _) (.cells #[.int .i64 xa, .string xd] 117)))
      have hBs : wr.heap.size < (wr.alloc (.cells #[.int .i64 xa, .string xd] 117)).heap.size := by simp
      generalize wr.alloc (.cells #[.int .i64 xa, .string xd] 117) = W1 at *
      generalize wr.heap.size = B at *
      go_quiet (fail)
      have HR2 := Lib.hid (show ERel fate w (W1.drewN nq) N p j (.slice (some ⟨gs, 0, none⟩) S'.length caps) (.slice (some ⟨g', 0, none⟩) L.length cap) S S' L from HR1.out.below (below_drewN' (Below.refl _ _) nq))
      have hRr2 : R (W1.drewN nq) := hRk hRr1 HR1.out.kept (DKept.of_below HR1.out.dsk.le (below_drewN' (Below.refl _ _) nq))
      have c0 : (W1.drewN nq).cell? ⟨p, 0, none⟩ = some (.slice (some ⟨gs, 0, none⟩) S'.length caps) := hr0'
      have c1 : (W1.drewN nq).cell? ⟨gs, xa, none⟩ = some (.string V) := hvc'
      have c2 : (W1.drewN nq).cell? ⟨B, 0, none⟩ = some (.int .i64 xa) := b0
      have c3 : (W1.drewN nq).cell? ⟨B, 1, none⟩ = some (.string xd) := b1
      have c4 : B < (W1.drewN nq).heap.size := hBs
      generalize W1.drewN nq = W2 at *
      clear hr0' hvc' b0 b1 hBs hRr1 HR1
      have ch := HF.out j W2 hlt hRr2
      have eg2 := eg (#[.int .i64 j] ++ lb) W2
      go_wp2_with fail
      refine Calls.mono ch ?_
      rintro e wz ⟨rfl, hz⟩
      have HR3 := Lib.hid (HR2.out.below hz)
      have hRr3 := hRk hRr2 HR2.out.kept (DKept.of_below HR2.out.dsk.le hz)
      have d0 := (hz.cell (p := ⟨p, 0, none⟩) HR2.out.dsk.lt).trans c0
      have d1 := (hz.cell (p := ⟨gs, xa, none⟩) (HR2.out.dsk.sure.lt gs rfl).2).trans c1
      have d2 := (hz.cell (p := ⟨B, 0, none⟩) c4).trans c2
      have d3 := (hz.cell (p := ⟨B, 1, none⟩) c4).trans c3
      have d5 : wz.frozen? ⟨gs, xa, none⟩ = false := HR3.out.dsk.sure.frozenAt xa
      clear c0 c1 c2 c3 c4 hz ch eg2 hRr2 HR2 hRr
      obtain ⟨F, hF⟩ : ∃ F, fate j = F := ⟨_, rfl⟩
      rw [hF]
      have HFj := Lib.hid hF
      clear hF
      by_cases f1 : F = 1
      · subst f1
        go_upto_region 7 with fail
        go_region
        go_wp2_with fail
        have z := HR3.out.stored (v := xd) HX.out (by rw [HFj.out]; rfl)
        have Z1 := Lib.hid z.1
        have Z2 := Lib.hid z.2
        clear z
        go_roundw
        case rel => exact ⟨j + 1, _, by omega, by go_num, hRk hRr3 HR3.out.kept Z2.out, Z1.out⟩
        case measure => simp [intOf]; omega
      · have f1' : (F == 1) = false := by simp [f1]
        by_cases f2 : F = 2
        · subst f2
          go_upto_region 9 with fail
          go_region
          go_wp2_with fail
          have z := HR3.out.stored (v := xd.extract 0 32 ++ V.extract 32 64) HX.out (by rw [HFj.out]; unfold fateS frontS backS; simp only [HG.out, hVs]; rfl)
          have Z1 := Lib.hid z.1
          have Z2 := Lib.hid z.2
          clear z
          go_roundw
          case rel => exact ⟨j + 1, _, by omega, by go_num, hRk hRr3 HR3.out.kept Z2.out, Z1.out⟩
          case measure => simp [intOf]; omega
        · have f2' : (F == 2) = false := by simp [f2]
          by_cases f3 : F = 3
          · subst f3
            go_upto_region 11 with fail
            go_region
            go_wp2_with fail
            have z := HR3.out.stored (v := V.extract 0 32 ++ xd.extract 32 64) HX.out (by rw [HFj.out]; unfold fateS frontS backS; simp only [HG.out, hxs]; rfl)
            have Z1 := Lib.hid z.1
            have Z2 := Lib.hid z.2
            clear z
            go_roundw
            case rel => exact ⟨j + 1, _, by omega, by go_num, hRk hRr3 HR3.out.kept Z2.out, Z1.out⟩
            case measure => simp [intOf]; omega
          · have f3' : (F == 3) = false := by simp [f3]
            go_wp2_with fail
            go_roundw
            case rel => exact ⟨j + 1, _, by omega, by go_num, hRr3, HR3.out.step HX.out (by rw [HFj.out]; unfold fateS; rw [if_neg f1, if_neg f2, if_neg f3]; exact HR3.out.dsk) (DKept.refl _ _ _ _ _)⟩
            case measure => simp [intOf]; omega
    · obtain rfl : j = L.length := by omega
      have hd2 := dsk_nil hrel.dsk
      have hfin : ERel fate w wr N p L.length sv (.slice a L.length cap) S S' L := hrel
      have e : S' = endS fate 0 S L := by
        have := hrel.same
        rw [List.drop_length] at this
        exact this
      have HE := Lib.hid e
      have hfr := hrel.dsk.frozen 1
      have HD2 := Lib.hid hd2
      have HK := Lib.hid hrel.kept
      clear hd2 hrel hfin e
      go_wp2_with fail
      go_returns
      exact ⟨rfl, by rw [← HE.out]; exact HD2.out.1, HK.out.trans HD2.out.2⟩
end Go.Proofs.YtgnnijpfkgmomaaGreatDoor
/-
  disk.Sync, Crash.
-/


namespace Go.Proofs.YtgnnijpfkgmomaaGreatDoor
open Go.RowKit
set_option linter.unusedVariables false
set_option linter.unusedSimpArgs false

/-- a writing's fate, of a number -/
def fateU (u j : Nat) : Nat := u / 2 ^ (2 * (j % 32)) % 4
theorem fate_and (u j : Nat) : bits .and .i64 (wrap64 (↑u / 2 ^ (2 * (j % 32)))) 3 = ((fateU u j : Nat) : Int) := by
  rw [mask3]
  have e : ((u : Int) / 2 ^ (2 * (j % 32))) = ((u / 2 ^ (2 * (j % 32)) : Nat) : Int) := by simp
  unfold fateU
  rw [e]
  generalize u / 2 ^ (2 * (j % 32)) = X
  unfold wrap64
  omega
theorem dfate1 (j : Nat) (w : World) : Calls Tryz.prog 71 #[.int .i64 j] w fun e w' => e = .returned (.int .i64 1) ∧ w = w' := by
  go_enter Tryz.func71, Tryz.ntmps71
  go_wp2_with fail
  go_ret
  exact ⟨rfl, rfl⟩
theorem dfate (u j q : Nat) (hu : u < 18446744073709551616) (hj : j ≤ 1000000) (w : World) (hc : w.cell? ⟨q, 0, none⟩ = some (.int .u64 u)) : Calls Tryz.prog 42 #[.int .i64 j, .pointer (some ⟨q, 0, none⟩)] w fun e w' => e = .returned (.int .i64 (fateU u j)) ∧ w = w' := by
  have hj2 : (j : Int) % 32 < 32 := by omega
  have hj3 : 0 ≤ (j : Int) % 32 := by omega
  go_enter Tryz.func42, Tryz.ntmps42
  go_wp2_with fail
  go_ret
  refine ⟨ret_int ?_, rfl⟩
  exact fate_and u j
/-- what is made sure -/
def syncS (S : List ByteArray) (L : List (Nat × ByteArray)) : List ByteArray := endS (fun _ => 1) 0 S L
/-- what a failure leaves -/
def crashS (u : Nat) (S : List ByteArray) (L : List (Nat × ByteArray)) : List ByteArray := endS (fun j => (fateU u j : Nat)) 0 S L
set_option maxRecDepth 100000 in
theorem dsync (w : World) (N p : Nat) (sv lv : Value) (S : List ByteArray) (L : List (Nat × ByteArray)) (h : Dsk w N p sv lv S L) (hL : L.length ≤ 1000000) :
    Calls Tryz.prog 39 #[.pointer (some ⟨p, 0, none⟩)] w fun e w' => e = .returned (.tuple #[]) ∧ Dsk w' N p sv (.slice none 0 0) (syncS S L) [] ∧ DKept w w' N p sv lv (.slice none 0 0) := by
  have c := dend 71 #[] (fun _ => 1) (fun _ => True) w N p sv lv S L h hL (fun args w => by rfl) trivial (fun _ _ _ => trivial) (fun j w' _ _ => (dfate1 j w').mono fun e w'' hh => ⟨hh.1, by rw [← hh.2]; exact Below.refl _ _⟩)
  go_enter Tryz.func39, Tryz.ntmps39
  go_wp2_with fail
  refine Calls.mono c ?_
  rintro e w2 ⟨rfl, h2, h3⟩
  go_wp2_with fail
  go_returns
  exact ⟨rfl, h2, h3⟩
theorem block_kept {w1 w2 : World} {N p q : Nat} {sv lv1 lv2 : Value} (hk : DKept w1 w2 N p sv lv1 lv2) (hq : q < w1.heap.size) (hp : q ≠ p) (hs : some q ≠ sv.ownBlock) (hl : some q ≠ lv1.ownBlock) (o : Nat) : w2.cell? ⟨q, o, none⟩ = w1.cell? ⟨q, o, none⟩ := by
  have e := hk.block q hq hp hs hl
  unfold World.cell?
  rw [e]
set_option maxRecDepth 100000 in
theorem dcrash (u : Nat) (hu : u < 18446744073709551616) (w : World) (N p : Nat) (sv lv : Value) (S : List ByteArray) (L : List (Nat × ByteArray)) (h : Dsk w N p sv lv S L) (hL : L.length ≤ 1000000) :
    Calls Tryz.prog 14 #[.pointer (some ⟨p, 0, none⟩), .int .u64 u] w fun e w' => e = .returned (.tuple #[]) ∧ Dsk w' N p sv (.slice none 0 0) (crashS u S L) [] ∧ DKept w w' N p sv lv (.slice none 0 0) := by
  have hb0 : Below w.heap.size w (w.alloc (.cells #[.int .u64 u] 32)) := (Below.refl _ _).alloc (Nat.le_refl _) _
  have hlt := h.lt
  have c := dend 42 #[.pointer (some ⟨w.heap.size, 0, none⟩)] (fun j => (fateU u j : Nat)) (fun wr => wr.cell? ⟨w.heap.size, 0, none⟩ = some (.int .u64 u)) (w.alloc (.cells #[.int .u64 u] 32)) N p sv lv S L (h.below hb0) hL (fun args w => by rfl)
    (by rw [World.cell?_alloc_at _ _ _ _ rfl]; rfl)
    (fun {w1 w2} hr k1 k2 => (block_kept k2 (Nat.lt_of_lt_of_le (by simp) k1.below.size) (by omega) (fun e => by have := (h.sure.lt _ e.symm).2; omega) (fun e => by have := (h.later.lt _ e.symm).2; omega) 0).trans hr)
    (fun j w' hj hr => (dfate u j w.heap.size hu (by omega) w' hr).mono fun e w'' hh => ⟨hh.1, by rw [← hh.2]; exact Below.refl _ _⟩)
  have HK := Lib.hid (DKept.of_below (p := p) (sv := sv) (lv := lv) h.le hb0)
  clear hb0 hlt h hu
  go_enter Tryz.func14, Tryz.ntmps14
  go_wp2_with fail
  refine Calls.mono c ?_
  rintro e w2 ⟨rfl, h2, h3⟩
  go_wp2_with fail
  go_returns
  exact ⟨rfl, h2, HK.out.trans h3⟩
end Go.Proofs.YtgnnijpfkgmomaaGreatDoor
