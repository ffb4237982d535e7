/-
  disk.Write.
-/
import Derived.Test.YtlhjgpedmnjbpaaDiskB
import Derived.Deep.RegionLaw
import Derived.BigRegion
namespace Go.Proofs.Ytlhjgpedmnjbpaa
open Go.RowKit
set_option linter.unusedVariables false
set_option linter.unusedSimpArgs false

section
variable {P : Program}
theorem run_app2 {t ty e : TypeId} {i : TypeInfo} {z : Value} {size bytes : Nat} (ht : P.underlying t = some (.slice e)) (hi : P.info? e = some i) (hz : i.zero = some z) (hsize : i.size = size) (hby : i.bytes = bytes)
    (hzs : z.cells.size = size) (hsz : 0 < size) (w : World) (base : Nat) (v : Value) (n : Nat) (xs : List Value) (hown : w.ownsRow base e size v n xs) (u : Value) (m : Nat) (news : List Value) (hr : SR w u size m news) (hm0 : 0 < m)
    (h1 : ∀ y ∈ news, y.oneCell' = true) (h63 : n + m ≤ maxLen) (hbytes : (n + m) * bytes ≤ 140737488355328) (hbase : base ≤ w.heap.size) :
    ∃ v' w', (Builtin.append_ #[t, t] ty #[v, u]).run P w = .ok v' w' ∧ w'.ownsRow base e size v' (n + m) (xs ++ news) ∧ w.grownBy w' v.ownBlock ∧ (v'.ownBlock = v.ownBlock ∨ v'.ownBlock = some w.heap.size) := by
  obtain ⟨a, cap, rfl, hmc, hcm, hl, hc⟩ := hr
  have hcells : ∀ ad, a = some ad → ∀ (j : Nat) y, news[j]? = some y → w.cell? (ad.add j) = some y := by
    intro ad e1 j y hj
    rcases hc with h0 | ⟨b, off, e2, _, hcell⟩
    · omega
    · rw [e1] at e2
      cases e2
      rw [add_off]
      exact hcell j y hj
  rcases hc with h0 | ⟨b, off, rfl, _, hcell⟩
  · omega
  · obtain ⟨v', w', hrun, h2, h3, _, h5⟩ := run_append_own_at (P := P) w base t ty e i z size bytes ht hi hz hsize hby hzs hsz v n xs hown ⟨b, off, none⟩ m cap news hl (hcells _ rfl) h1 h63 hbytes hbase
    exact ⟨v', w', hrun, h2, h3, h5⟩
theorem step_app2 {t e : TypeId} {i : TypeInfo} {z : Value} {size bytes : Nat} (ht : P.underlying t = some (.slice e)) (hi : P.info? e = some i) (hz : i.zero = some z) (hsize : i.size = size) (hby : i.bytes = bytes)
    (hzs : z.cells.size = size) (hsz : 0 < size) {ops : Array Oper} {o : Oper} {a : Act} {K : Act → World → Prop} {Q : Exit → Act → World → Prop} {E : Prop} {w : World} (hgd : o.guard = none) (s x : Operand)
    (ho : o.op = .call { callee := .builtin .append, args := #[s, x], argTypes := #[t, t] }) (base : Nat) (v : Value) (n : Nat) (xs : List Value) (hs : a.eval s = v) (hown : w.ownsRow base e size v n xs)
    (u : Value) (m : Nat) (news : List Value) (hx : a.eval x = u) (hr : SR w u size m news) (hm0 : 0 < m)
    (h1 : ∀ y ∈ news, y.oneCell' = true) (h63 : n + m ≤ maxLen) (hbytes : (n + m) * bytes ≤ 140737488355328) (hbase : base ≤ w.heap.size)
    (h : ∀ v' w', w'.ownsRow base e size v' (n + m) (xs ++ news) → w.grownBy w' v.ownBlock → (v'.ownBlock = v.ownBlock ∨ v'.ownBlock = some w.heap.size) → K (a.put o.dst v') w') :
    if Region.wanted o (yielded ops a.tmps) = true then Oper.wp P o a w K Q else E := by
  have hw : Region.wanted o (yielded ops a.tmps) = true := by simp [Region.wanted, hgd]
  rw [if_pos hw]
  obtain ⟨v', w', hrun, h2, h3, h4⟩ := run_app2 (P := P) (ty := o.type) ht hi hz hsize hby hzs hsz w base v n xs hown u m news hr hm0 h1 h63 hbytes hbase
  unfold Oper.wp execOp
  simp only [ho, resolve, invoke, builtin, Sem.run_bind, Sem.run_pure, Result.andThen_ok, List.map_toArray, List.map_cons, List.map_nil, hs, hx, hrun]
  exact h v' w' h2 h3 h4
end
/-- a writing is laid behind the others -/
theorem dsk_put {w w2 : World} {N p : Nat} {sv lv v2 : Value} {S : List ByteArray} {L : List (Nat × ByteArray)} {o : Obj} {x : Nat × ByteArray} (h : Dsk w N p sv lv S L) (hx : x.1 < S.length ∧ x.2.size = 64)
    (own2 : w2.ownsRow N 189 2 v2 (L.length + 1) (wCells L ++ [.int .i64 x.1, .string x.2])) (hg : (w.alloc o).grownBy w2 lv.ownBlock) (hn : v2.ownBlock = lv.ownBlock ∨ v2.ownBlock = some (w.alloc o).heap.size) :
    Dsk (w2.setCell ⟨p, 1, none⟩ v2) N p sv v2 S (L ++ [x]) ∧ DKept w (w2.setCell ⟨p, 1, none⟩ v2) N p sv lv v2 := by
  have hlo := row_other h.later h.obj (by decide)
  have hso := row_other h.sure h.obj (by decide)
  have hsl : sv.ownBlock = none ∨ sv.ownBlock ≠ lv.ownBlock := by
    cases hs : sv.ownBlock with
    | none => exact .inl rfl
    | some k => exact .inr fun e => rows_apart h.sure h.later (by decide) k hs e.symm
  have hg0 : w.grownBy w2 lv.ownBlock := ⟨hg.os, hg.tape, hg.output, Nat.le_trans (by simp) hg.size, fun k hk hne => (hg.block k (by simp; omega) hne).trans (Below.heap_alloc _ _ _ hk)⟩
  have hobj2 : w2.heap[p]? = some (.cells #[sv, lv] 187) := (hg0.block p h.lt (fun e => hlo e.symm)).trans h.obj
  have hs2 := h.sure.kept hg0 hsl
  have hgs := grownBy_setCell' w2
  have v2o := row_other own2 hobj2 (by decide)
  have hset : ∀ k, k ≠ p → (w2.setCell ⟨p, 1, none⟩ v2).heap[k]? = w2.heap[k]? := fun k hk => heap_setCell_other _ _ _ _ hk
  have hgp : w2.grownBy (w2.setCell ⟨p, 1, none⟩ v2) (some p) := ⟨rfl, rfl, rfl, by simp, fun k _ hk => hset k (fun e => hk (by rw [e]))⟩
  refine ⟨⟨h.hp, ?_, hs2.kept hgp (.inr hso), ?_, h.sizes, ?_, h.most⟩, ?_, ?_, ?_⟩
  · rw [heap_setCell_same _ _ _ _ _ _ hobj2]
    rfl
  · have := own2.kept hgp (.inr v2o)
    rw [List.length_append, wCells_append]
    exact this
  · intro y hy
    rcases List.mem_append.1 hy with hy | hy
    · exact h.ats y hy
    · simp at hy; subst hy; exact hx
  · have hb : Below N w w2 := (Below.refl N w).grown hg0 h.le (fun k e => (h.later.lt k e).1)
    exact hb.setCell (p := ⟨p, 1, none⟩) h.hp _
  · intro k hk hkp hks hkl
    exact (hset k hkp).trans (hg0.block k hk hkl)
  · rcases hn with hn | hn
    · exact .inl hn
    · right
      intro k e
      rw [hn] at e
      cases e
      simp
theorem Dsk.drew {w : World} {N p : Nat} {sv lv : Value} {S : List ByteArray} {L : List (Nat × ByteArray)} (h : Dsk w N p sv lv S L) : Dsk w.drew N p sv lv S L := ⟨h.hp, h.obj, h.sure, h.later, h.sizes, h.ats, h.most⟩

theorem dwrite_none (n : Int) (s : ByteArray) (w : World) (N p : Nat) (sv lv : Value) (S : List ByteArray) (L : List (Nat × ByteArray)) (h : Dsk w N p sv lv S L) (hn : ¬ (0 ≤ n ∧ n < S.length) ∨ 64 < s.size) :
    Calls Try.prog 69 #[.pointer (some ⟨p, 0, none⟩), .int .i64 n, .string s] w fun e w' => e = .returned (.int .i64 1) ∧ w = w' := by
  have c := dhas n w N p sv lv S L h
  by_cases h1 : 0 ≤ n ∧ n < S.length
  · have h2 : 64 < s.size := hn.resolve_left (fun h => h h1)
    simp only [h1, and_self, decide_true] at c
    go_enter Try.func69, Try.ntmps69
    go_wp2_with fail
    refine Calls.mono c ?_
    rintro e w2 ⟨rfl, rfl⟩
    go_wp2_with fail
    go_ret
    exact ⟨rfl, rfl⟩
  · simp only [h1, decide_false] at c
    go_enter Try.func69, Try.ntmps69
    go_wp2_with fail
    refine Calls.mono c ?_
    rintro e w2 ⟨rfl, rfl⟩
    go_wp2_with fail
    go_ret
    exact ⟨rfl, rfl⟩

theorem owns_form2 {w : World} {base size n : Nat} {e : TypeId} {v : Value} {xs : List Value} (h : w.ownsRow base e size v n xs) : ∃ a c, v = .slice a n c := by
  rcases h.2 with ⟨rfl, rfl⟩ | ⟨g, cap, _, rfl, _⟩
  · exact ⟨none, 0, rfl⟩
  · exact ⟨_, cap, rfl⟩
theorem put_obj {w w2 : World} {N p : Nat} {sv lv : Value} {S : List ByteArray} {L : List (Nat × ByteArray)} {o : Obj} (h : Dsk w N p sv lv S L) (hg : (w.alloc o).grownBy w2 lv.ownBlock) : w2.heap[p]? = some (.cells #[sv, lv] 187) :=
  (hg.block p (by have := h.lt; simp; omega) (fun e => row_other h.later h.obj (by decide) e.symm)).trans ((Below.heap_alloc _ _ _ h.lt).trans h.obj)
theorem put_cell {w w2 : World} {N p : Nat} {sv lv : Value} {S : List ByteArray} {L : List (Nat × ByteArray)} {o : Obj} (h : Dsk w N p sv lv S L) (hg : (w.alloc o).grownBy w2 lv.ownBlock) : w2.cell? ⟨p, 1, none⟩ = some lv := by simp [World.cell?, put_obj h hg]
theorem put_frozen {w w2 : World} {N p : Nat} {sv lv : Value} {S : List ByteArray} {L : List (Nat × ByteArray)} {o : Obj} (h : Dsk w N p sv lv S L) (hg : (w.alloc o).grownBy w2 lv.ownBlock) : w2.frozen? ⟨p, 1, none⟩ = false := by simp [World.frozen?, put_obj h hg]
set_option maxHeartbeats 1600000 in
set_option maxRecDepth 100000 in
theorem dwrite (n : Nat) (s : ByteArray) (w : World) (N p : Nat) (sv lv : Value) (S : List ByteArray) (L : List (Nat × ByteArray)) (h : Dsk w N p sv lv S L) (hn : n < S.length) (hs : s.size ≤ 64) (hL : L.length ≤ 1000000) :
    Calls Try.prog 69 #[.pointer (some ⟨p, 0, none⟩), .int .i64 n, .string s] w fun e w' => e = .returned (.int .i64 0) ∧ ∃ v2, Dsk w' N p sv v2 S (L ++ [(n, s ++ zeroL (64 - s.size))]) ∧ DKept w w' N p sv lv v2 := by
  obtain ⟨i0, hi, hz0, hz1, hz2⟩ := info_parts (show (Try.prog.info? 189).map (fun i => (i.zero, i.size, i.bytes)) = some (some (.agg #[.int .i64 0, .string ⟨#[]⟩]), 2, 24) by kernel_rfl)
  have c := dhas n w N p sv lv S L h
  have hn2 : 0 ≤ (n : Int) ∧ (n : Int) < S.length := ⟨by omega, by omega⟩
  simp only [hn2, and_self, decide_true] at c
  have cn : ∀ w', Calls Try.prog 123 #[.int .i64 (64 - (s.size : Int))] w' fun e w'' => e = .returned (.string (zeroL (64 - s.size))) ∧ Below w'.heap.size w' w'' := by
    intro w'
    rw [show (64 - (s.size : Int)) = ((64 - s.size : Nat) : Int) by omega]
    exact dnoughts _ w' (by omega)
  have hsz : (s ++ zeroL (64 - s.size)).size = 64 := by rw [ByteArray.size_append, zeroL_size]; omega
  obtain ⟨Z, hZ⟩ : ∃ Z, zeroL (64 - s.size) = Z := ⟨_, rfl⟩
  rw [hZ] at hsz
  rw [hZ]
  simp only [hZ] at cn
  have hZs : s.size + Z.size ≤ 64 := by rw [ByteArray.size_append] at hsz; omega
  have hZ2 : Z.size ≤ 64 := by omega
  have hnb : ¬ 9223372036854775807 < s.size + Z.size := by omega
  clear hZs
  have HD := Lib.hid h
  have hobj := h.cell1
  have hfr := h.frozen 1
  obtain ⟨a, cap, rfl, _, _⟩ := h.lform
  have HS := Lib.hid hsz
  clear hsz hZ h
  go_enter Try.func69, Try.ntmps69
  go_wp2_with fail
  refine Calls.mono c ?_
  rintro e w2 ⟨rfl, rfl⟩
  go_wp2_with fail
  go_region_law (first | (refine step_app2 Try.underlying185 hi hz0 hz1 hz2 rfl (by decide) rfl (.tmp 20) (.tmp 29) rfl N _ L.length (wCells L) rfl (DZ.out.later.alloc _) _ 1 [.int .i64 n, .string (s ++ Z)] rfl (SR.lit _ _ #[.int .i64 n, .string (s ++ Z)] 2 1 (by decide) rfl) (by decide) (fun y hy => by simp at hy; rcases hy with rfl | rfl <;> rfl) (by unfold maxLen; omega) (by omega) (by have := DZ.out.le; simp; omega) ?_; intro v2 w3 own2 hg2 hn2; obtain ⟨a2, c2, rfl⟩ := owns_form2 own2; have y2 := put_cell DZ.out hg2; have f2 := put_frozen DZ.out hg2) | (go_wp2_with (go_at_call 123; refine Calls.mono (cn _) ?_; rintro e wz ⟨rfl, hz⟩; have DZ := Lib.hid (HD.out.drew.below hz); have hzc := DZ.out.cell1; have hza := (World.cell?_alloc_lt wz (.cells #[.int .i64 n, .string (s ++ Z)] 189) ⟨p, 1, none⟩ DZ.out.lt).trans hzc)))
  all_goals
    have F := Lib.hid (dsk_put (x := (n, s ++ Z)) DZ.out ⟨hn, HS.out⟩ own2 hg2 hn2)
    have G := Lib.hid (DKept.trans (DKept.of_below (sv := sv) (lv := Value.slice a L.length cap) (p := p) (w := w) (w' := wz) HD.out.le (below_of_drew (show Below w.heap.size w.drew wz from hz))) F.out.2)
    clear own2 hg2 hn2 y2 f2 hz hza hzc
    go_wp2_with fail
    go_ret
    exact ⟨rfl, _, F.out.1, G.out⟩
end Go.Proofs.Ytlhjgpedmnjbpaa
